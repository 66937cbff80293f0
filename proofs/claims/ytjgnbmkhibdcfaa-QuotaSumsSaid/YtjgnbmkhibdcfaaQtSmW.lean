/- The law QuotaSums, walked (begun). Written by tools/mkqt.py out of XQtSmW.tpl. -/
import Derived.Test.YtjgnbmkhibdcfaaQtSumM
import Derived.Test.YtjgnbmkhibdcfaaQtPick
namespace Go.Proofs.Ytjgnbmkhibdcfaa
open Go.RowKit
set_option linter.unusedVariables false

def nb4 : Array Value := #[.string ⟨ #[97]⟩, .string ⟨ #[98]⟩, .string ⟨ #[99]⟩, .string ⟨ #[100]⟩]
theorem ids_row {w w' : World} {l : List (LKey × Int)} {r : List UInt8} {e : Ending} (h : IdsQ w l r e w') : ∃ A c k ids, e = .returned (.slice A k c) ∧ IRow w' A k ids ∧ ids.Pairwise (fun a b => cmpL a b < 0) ∧ (∀ id : List UInt8, id.length = 32 → (id ∈ ids ↔ (szQ l (r, id)).isSome = true)) ∧ (∀ id ∈ ids, id.length = 32) ∧ k ≤ 100000 ∧ Below w.heap.size w w' := by
  obtain ⟨A, c, k, ids, h1, h2, h3, h4, h5, h6⟩ := h.row
  obtain ⟨_, _, _, _, _, _, _, _, _, _, hb⟩ := h
  exact ⟨A, c, k, ids, h1, h2, h3, h4, h5, h6, hb⟩
theorem nm4_max (j : Nat) : (nm4 j).length ≤ maxLen := by rw [nm4_len]; unfold maxLen; omega
theorem nb4_at {m : Nat} (h : m < 4) : nb4[m]? = some (.string (strB (nm4 m))) := by
  rcases m with _ | _ | _ | _ | m <;> first | rfl | omega
def sm13Val (a0 off n c k j : Nat) (x1 : ByteArray) (z0 z : Int) : Nat → Unit → Value
  | 0, _ => .slice (some ⟨a0, off, none⟩) n c
  | 1, _ => .int .i64 (k : Int)
  | 2, _ => .pointer (some ⟨a0, off + k * 36, none⟩)
  | 3, _ => .pointer (some ⟨a0, off + k * 36 + 1, none⟩)
  | 4, _ => .string x1
  | 5, _ => .int .i64 (x1.size : Int)
  | 6, _ => .int .i64 (j : Int)
  | 7, _ => .slice (some ⟨a0, off, none⟩) n c
  | 8, _ => .int .i64 (k : Int)
  | 9, _ => .pointer (some ⟨a0, off + k * 36, none⟩)
  | 10, _ => .pointer (some ⟨a0, off + k * 36 + 35, none⟩)
  | 11, _ => .int .i64 z0
  | 12, _ => .int .i64 z
  | 13, _ => .int .i64 (j : Int)
  | 14, _ => .int .i64 z
  | _, _ => undef
def sm16Val (s b a0 off n c k j : Nat) (x : List UInt8) (z : Int) (is : Bool) (fe : Int) : Nat → Unit → Value
  | 0, _ => .pointer (some ⟨s, 0, none⟩)
  | 1, _ => .slice (some ⟨b, 0, none⟩) 4 4
  | 2, _ => .int .i64 (j : Int)
  | 3, _ => .pointer (some ⟨b, j, none⟩)
  | 4, _ => .string (strB (nm4 j))
  | 5, _ => .slice (some ⟨a0, off, none⟩) n c
  | 6, _ => .int .i64 (k : Int)
  | 7, _ => .pointer (some ⟨a0, off + k * 36, none⟩)
  | 8, _ => .pointer (some ⟨a0, off + k * 36 + 3, none⟩)
  | 9, _ => .agg (bcells x)
  | 10, _ => .int .i64 z
  | 11, _ => .tuple #[.bool is, .int .i64 fe]
  | 12, _ => .tuple #[.bool is, .int .i64 fe]
  | 13, _ => .bool is
  | 14, _ => .int .i64 fe
  | 15, _ => .bool is
  | 16, _ => .int .i64 fe
  | _, _ => undef
def sm17Val (s b a0 off n c k j : Nat) (x : List UInt8) (z : Int) (is : Bool) (fe : Int) : Nat → Unit → Value
  | 0, _ => .pointer (some ⟨s, 0, none⟩)
  | 1, _ => .slice (some ⟨b, 0, none⟩) 4 4
  | 2, _ => .int .i64 (j : Int)
  | 3, _ => .pointer (some ⟨b, j, none⟩)
  | 4, _ => .string (strB (nm4 j))
  | 5, _ => .slice (some ⟨a0, off, none⟩) n c
  | 6, _ => .int .i64 (k : Int)
  | 7, _ => .pointer (some ⟨a0, off + k * 36, none⟩)
  | 8, _ => .pointer (some ⟨a0, off + k * 36 + 3, none⟩)
  | 9, _ => .agg (bcells x)
  | 10, _ => .int .i64 z
  | 11, _ => .tuple #[.bool is, .int .i64 fe]
  | 12, _ => .tuple #[.bool is, .int .i64 fe]
  | 13, _ => .bool is
  | 14, _ => .int .i64 fe
  | 15, _ => .bool is
  | 16, _ => .int .i64 fe
  | _, _ => undef
def sm25Val (s b c2 m : Nat) (sv : Int) : Nat → Unit → Value
  | 0, _ => .pointer (some ⟨s, 0, none⟩)
  | 1, _ => .slice (some ⟨b, 0, none⟩) 4 4
  | 2, _ => .int .i64 (m : Int)
  | 3, _ => .pointer (some ⟨b, m, none⟩)
  | 4, _ => .string (strB (nm4 m))
  | 5, _ => .int .i64 sv
  | 6, _ => .slice (some ⟨c2, 0, none⟩) 4 4
  | 7, _ => .int .i64 (m : Int)
  | 8, _ => .pointer (some ⟨c2, m, none⟩)
  | 9, _ => .int .i64 sv
  | 10, _ => .bool false
  | _, _ => undef
def sm34aVal (s b m gi kk ci i : Nat) (x : List UInt8) : Nat → Unit → Value
  | 0, _ => .pointer (some ⟨s, 0, none⟩)
  | 1, _ => .slice (some ⟨b, 0, none⟩) 4 4
  | 2, _ => .int .i64 (m : Int)
  | 3, _ => .pointer (some ⟨b, m, none⟩)
  | 4, _ => .string (strB (nm4 m))
  | 5, _ => .slice (some ⟨gi, 0, none⟩) kk ci
  | 6, _ => .int .i64 (i : Int)
  | 7, _ => .pointer (some ⟨gi, i * 32, none⟩)
  | 8, _ => .agg (bcells x)
  | 9, _ => .bool true
  | 10, _ => .bool false
  | 11, _ => .bool false
  | 12, _ => .int .i64 (i : Int)
  | 13, _ => .bool false
  | 14, _ => .bool false
  | 15, _ => undef
  | 16, _ => undef
  | 17, _ => undef
  | 18, _ => undef
  | 19, _ => undef
  | 20, _ => undef
  | 21, _ => undef
  | 22, _ => undef
  | 23, _ => undef
  | 24, _ => undef
  | 25, _ => undef
  | 26, _ => .bool false
  | 27, _ => .bool false
  | _, _ => undef
def sm34bVal (s b m gi kk ci i : Nat) (x : List UInt8) (i2 : Nat) (y : List UInt8) (cv : Int) : Nat → Unit → Value
  | 0, _ => .pointer (some ⟨s, 0, none⟩)
  | 1, _ => .slice (some ⟨b, 0, none⟩) 4 4
  | 2, _ => .int .i64 (m : Int)
  | 3, _ => .pointer (some ⟨b, m, none⟩)
  | 4, _ => .string (strB (nm4 m))
  | 5, _ => .slice (some ⟨gi, 0, none⟩) kk ci
  | 6, _ => .int .i64 (i : Int)
  | 7, _ => .pointer (some ⟨gi, i * 32, none⟩)
  | 8, _ => .agg (bcells x)
  | 9, _ => .bool true
  | 10, _ => .bool false
  | 11, _ => .bool false
  | 12, _ => .int .i64 (i : Int)
  | 13, _ => .bool true
  | 14, _ => .bool true
  | 15, _ => .slice (some ⟨gi, 0, none⟩) kk ci
  | 16, _ => .int .i64 (i : Int)
  | 17, _ => .int .i64 (i2 : Int)
  | 18, _ => .pointer (some ⟨gi, i2 * 32, none⟩)
  | 19, _ => .agg (bcells y)
  | 20, _ => .slice (some ⟨gi, 0, none⟩) kk ci
  | 21, _ => .int .i64 (i : Int)
  | 22, _ => .pointer (some ⟨gi, i * 32, none⟩)
  | 23, _ => .agg (bcells x)
  | 24, _ => .int .i64 cv
  | 25, _ => .bool false
  | 26, _ => .bool false
  | 27, _ => .bool false
  | _, _ => undef
set_option maxRecDepth 100000 in
set_option maxHeartbeats 4000000 in
theorem qsums_calls {w : World} {A : Option Addr} {n c : Nat} {ts : List QA} (hr : ActRow w A n ts) (hmax : n ≤ 9223372036854775807) (limit : Int) :
    Calls Try.prog 6 #[.int .i64 limit, .slice A n c] w fun e w' => e = .returned (.bool true) ∧ Below w.heap.size w w' := by
  have HR := hid hr
  clear hr
  go_enter Try.func6, Try.ntmps6
  go_wp2_with fail
  refine (qknown_calls _).mono ?_
  rintro _ w1 ⟨rfl, hb1⟩
  have HB1 := hid hb1
  have HLg := hid (qlong_calls (c := c) (HR.out.keep hb1) hmax)
  clear hb1
  go_wp2_with fail
  refine HLg.out.mono ?_
  rintro _ _ ⟨lg, rfl, rfl, hlg⟩
  have HLg := hid hlg
  clear hlg
  cases lg
  · obtain ⟨hn40, hts⟩ := HLg.out rfl
    have HTs := hid hts
    clear hts HLg
    obtain ⟨lim, hlim⟩ : ∃ lim, limit % 301 = lim := ⟨_, rfl⟩
    have hl0 : 0 ≤ lim ∧ lim < 301 := by omega
    have HP := hid (fun W => qpick_calls limit 301 W (by omega) (by omega))
    rw [hlim] at HP
    have HN := hid (q1_new lim (by omega) (by omega) w w1 HB1.out)
    clear hlim
    go_wp2_with fail
    refine (HP.out _).mono ?_
    rintro _ _ ⟨rfl, rfl⟩
    clear HP
    go_wp2_with fail
    refine HN.out.mono ?_
    rintro _ w2 ⟨s, rfl, h2⟩
    have hle := h2.below.size
    have hq3 := h2.q2.hold (below_new w2 (.cells #[.string ⟨ #[97]⟩, .string ⟨ #[98]⟩, .string ⟨ #[99]⟩, .string ⟨ #[100]⟩] 9)) (Nat.le_refl _) (Blk.new w2 9 #[.string ⟨ #[97]⟩, .string ⟨ #[98]⟩, .string ⟨ #[99]⟩, .string ⟨ #[100]⟩])
    have hq4 := hq3.hold (below_new _ (.cells #[.int .i64 0, .int .i64 0, .int .i64 0, .int .i64 0] 3)) (Nat.le_refl _) (Blk.new _ 3 #[.int .i64 0, .int .i64 0, .int .i64 0, .int .i64 0])
    clear h2 HN hq3
    rw [size_new] at hq4
    have hbc : w.heap.size ≤ w2.heap.size + 1 ∧ w2.heap.size + 1 ≠ w2.heap.size := by omega
    have HBC := hid hbc
    clear hbc hle
    go_wp2_with fail
    generalize w2.alloc (.cells #[.string ⟨ #[97]⟩, .string ⟨ #[98]⟩, .string ⟨ #[99]⟩, .string ⟨ #[100]⟩] 9) = w3 at hq4 ⊢
    generalize w2.heap.size = b at hq4 HBC ⊢
    generalize b + 1 = c2 at hq4 HBC ⊢
    generalize w3.alloc (.cells #[.int .i64 0, .int .i64 0, .int .i64 0, .int .i64 0] 3) = w4 at hq4 ⊢
    have HQ4 := hid (show Q2 w [(c2, 3, sumsA []), (b, 9, nb4)] w4 s 0 ⟨lim, []⟩ from hq4)
    clear hq4
    go_loopw [4, 10] (fun v4 v10 wr => ∃ k : Nat, v4 = .bool false ∧ v10 = .int .i64 (k : Int) ∧ k ≤ n ∧ Hid (∃ q, Q2 w [(c2, 3, sumsA q.l), (b, 9, nb4)] wr s k q ∧ q.limit = lim ∧ q.l.length ≤ k)) (fun _ v10 _ => n - (intOf v10).toNat)
    case atStart => exact ⟨0, rfl, rfl, Nat.zero_le _, hid ⟨_, HQ4.out, rfl, Nat.le_refl _⟩⟩
    case round =>
      obtain ⟨k, rfl, rfl, hk, HW⟩ := hrel
      by_cases hlt : k < n
      · have hlt' : (k : Int) < (n : Int) := by omega
        obtain ⟨a0, off, rfl, hc⟩ := HR.out.2.2 (by omega)
        obtain ⟨t, ht⟩ : ∃ t, ts[k]? = some t := ⟨ts[k]'(by have := HR.out.1; omega), List.getElem?_eq_getElem _⟩
        have hok := HR.out.2.1 t (List.mem_of_getElem? ht)
        have HC0 := hid (hc k t ht)
        obtain ⟨q, hq, hql, hlen⟩ := HW.out
        have HBW := hid hq.below
        have HOQ := hid hq.ok
        obtain ⟨x1, hx1⟩ : ∃ x, strB t.repo = x := ⟨_, rfl⟩
        have hr150 := (HTs.out k t ht).1
        have hs1 : x1.size = t.repo.length := by rw [← hx1, strB_size]
        obtain ⟨j, hj⟩ : ∃ j : Nat, (x1.size : Int) % 4 = (j : Int) := ⟨x1.size % 4, by omega⟩
        have hj4 : j < 4 := by omega
        obtain ⟨z, hz⟩ : ∃ z, t.size % 101 = z := ⟨_, rfl⟩
        have hz0 : 0 ≤ z ∧ z < 101 := by omega
        have HP1 := hid (fun W => qpick_calls (x1.size : Int) 4 W (by omega) (by omega))
        have HP2 := hid (fun W => qpick_calls t.size 101 W (by omega) (by omega))
        rw [hj] at HP1
        rw [hz] at HP2
        obtain ⟨z0, hz0'⟩ : ∃ z0, t.size = z0 := ⟨_, rfl⟩
        have HC := hid (fun W (hb : Below wr.heap.size wr W) => (⟨by rw [← hx1]; exact cell_keep (cell_keep (HC0.out 1 _ rfl) HBW.out) hb, by rw [← hz0']; exact cell_keep (cell_keep (HC0.out 35 (.int .i64 t.size) (by simp [AV, hok.id])) HBW.out) hb, by omega⟩ : W.cell? ⟨a0, off + k * 36 + 1, none⟩ = some (.string x1) ∧ W.cell? ⟨a0, off + k * 36 + 35, none⟩ = some (.int .i64 z0) ∧ (k : Int) < 9223372036854775807))
        rw [hz0'] at HP2
        have HT := hid (⟨ht, hok, hx1, hs1, hj, hz, hz0'⟩ : ts[k]? = some t ∧ QAOK t ∧ strB t.repo = x1 ∧ x1.size = t.repo.length ∧ (x1.size : Int) % 4 = (j : Int) ∧ t.size % 101 = z ∧ t.size = z0)
        have HQ := hid hq
        clear ht hok hx1 hs1 hj hz hz0' hq HW hc hr150
        go_wp2_with fail
        refine wp_region_invG 213 () (sm13Val a0 off n c k j x1 z0 z) (fun _ _ W => Below wr.heap.size wr W) (by kernel_rfl) (by kernel_rfl) (by exact Nat.le_refl 213) ?_ ?_ ?_
        · exact (Below.refl _ _).drew
        · intro i o f gh a W hi hf hdep hsame hcl hval hS
          rcases i with _ | _ | _ | _ | _ | _ | _ | _ | _ | _ | _ | _ | _ | _ | _ | i
          all_goals simp only [List.getElem?_cons_succ, List.getElem?_cons_zero, List.getElem?_nil, Option.some.injEq, reduceCtorEq] at hi
          all_goals subst hi
          · have E1 : a.tmps[1]? = some (.slice (some ⟨a0, off, none⟩) n c) := (same_of hsame 1 (by rfl)).trans rfl
            refine g_plain rfl ?_
            exact does_value (w' := W) (v := .slice (some ⟨a0, off, none⟩) n c) (by go_simp) ⟨(), .inr rfl, hS⟩
          · have E10 : a.tmps[10]? = some (.int .i64 (k : Int)) := (same_of hsame 10 (by rfl)).trans rfl
            refine g_plain rfl ?_
            exact does_value (w' := W) (v := .int .i64 (k : Int)) (by go_simp) ⟨(), .inr rfl, hS⟩
          · have E44 := hval 0 _ 44 rfl rfl (dep_of hdep 0 (by rfl))
            have E45 := hval 1 _ 45 rfl rfl (dep_of hdep 1 (by rfl))
            unfold sm13Val at E44 E45
            obtain ⟨c1, c4, hk3⟩ := HC.out W hS
            refine g_plain rfl ?_
            exact does_value (w' := W) (v := .pointer (some ⟨a0, off + k * 36, none⟩)) (by go_simp) ⟨(), .inr rfl, hS⟩
          · have E46 := hval 2 _ 46 rfl rfl (dep_of hdep 2 (by rfl))
            unfold sm13Val at E46
            obtain ⟨c1, c4, hk3⟩ := HC.out W hS
            refine g_plain rfl ?_
            exact does_value (w' := W) (v := .pointer (some ⟨a0, off + k * 36 + 1, none⟩)) (by go_simp) ⟨(), .inr rfl, hS⟩
          · have E47 := hval 3 _ 47 rfl rfl (dep_of hdep 3 (by rfl))
            unfold sm13Val at E47
            obtain ⟨c1, c4, hk3⟩ := HC.out W hS
            refine g_plain rfl ?_
            exact does_value (w' := W) (v := .string x1) (by go_simp) ⟨(), .inr rfl, hS⟩
          · have E48 := hval 4 _ 48 rfl rfl (dep_of hdep 4 (by rfl))
            unfold sm13Val at E48
            refine g_plain rfl ?_
            exact does_value (w' := W) (v := .int .i64 (x1.size : Int)) (by go_simp) ⟨(), .inr rfl, hS⟩
          · have E49 := hval 5 _ 49 rfl rfl (dep_of hdep 5 (by rfl))
            unfold sm13Val at E49
            refine g_plain rfl ?_
            refine does_call 36 #[.int .i64 (x1.size : Int), .int .i64 4] (by go_simp) ((HP1.out W).mono ?_)
            rintro _ W' ⟨rfl, rfl⟩
            exact ⟨_, rfl, (), .inr rfl, hS⟩
          · have E1 : a.tmps[1]? = some (.slice (some ⟨a0, off, none⟩) n c) := (same_of hsame 1 (by rfl)).trans rfl
            refine g_plain rfl ?_
            exact does_value (w' := W) (v := .slice (some ⟨a0, off, none⟩) n c) (by go_simp) ⟨(), .inr rfl, hS⟩
          · have E10 : a.tmps[10]? = some (.int .i64 (k : Int)) := (same_of hsame 10 (by rfl)).trans rfl
            refine g_plain rfl ?_
            exact does_value (w' := W) (v := .int .i64 (k : Int)) (by go_simp) ⟨(), .inr rfl, hS⟩
          · have E51 := hval 7 _ 51 rfl rfl (dep_of hdep 7 (by rfl))
            have E52 := hval 8 _ 52 rfl rfl (dep_of hdep 8 (by rfl))
            unfold sm13Val at E51 E52
            obtain ⟨c1, c4, hk3⟩ := HC.out W hS
            refine g_plain rfl ?_
            exact does_value (w' := W) (v := .pointer (some ⟨a0, off + k * 36, none⟩)) (by go_simp) ⟨(), .inr rfl, hS⟩
          · have E53 := hval 9 _ 53 rfl rfl (dep_of hdep 9 (by rfl))
            unfold sm13Val at E53
            obtain ⟨c1, c4, hk3⟩ := HC.out W hS
            refine g_plain rfl ?_
            exact does_value (w' := W) (v := .pointer (some ⟨a0, off + k * 36 + 35, none⟩)) (by go_simp) ⟨(), .inr rfl, hS⟩
          · have E54 := hval 10 _ 54 rfl rfl (dep_of hdep 10 (by rfl))
            unfold sm13Val at E54
            obtain ⟨c1, c4, hk3⟩ := HC.out W hS
            refine g_plain rfl ?_
            exact does_value (w' := W) (v := .int .i64 z0) (by go_simp) ⟨(), .inr rfl, hS⟩
          · have E55 := hval 11 _ 55 rfl rfl (dep_of hdep 11 (by rfl))
            unfold sm13Val at E55
            refine g_plain rfl ?_
            refine does_call 36 #[.int .i64 z0, .int .i64 101] (by go_simp) ((HP2.out W).mono ?_)
            rintro _ W' ⟨rfl, rfl⟩
            exact ⟨_, rfl, (), .inr rfl, hS⟩
          · have E50 := hval 6 _ 50 rfl rfl (dep_of hdep 6 (by rfl))
            unfold sm13Val at E50
            refine g_plain rfl ?_
            exact does_value (w' := W) (v := .int .i64 (j : Int)) (by go_simp) ⟨(), .inr rfl, hS⟩
          · have E56 := hval 12 _ 56 rfl rfl (dep_of hdep 12 (by rfl))
            unfold sm13Val at E56
            refine g_plain rfl ?_
            exact does_value (w' := W) (v := .int .i64 z) (by go_simp) ⟨(), .inr rfl, hS⟩
        · intro gh w5 hS
          have HQ5 := hid (HQ.out.keep hS)
          clear hS HC HP1 HP2 HQ
          simp only [putAll, sm13Val, Nat.reduceAdd, Nat.zero_add, Act.put, List.setIfInBounds_toArray, List.set_cons_zero, List.set_cons_succ]
          obtain ⟨kd, hkd⟩ : ∃ kd, t.kind = kd := ⟨_, rfl⟩
          have c0 : w5.cell? ⟨a0, off + k * 36, none⟩ = some (.int .i64 kd) := by rw [← hkd]; exact cell_keep (HC0.out 0 _ rfl) HQ5.out.below
          obtain ⟨x, hx⟩ : ∃ x, t.id = x := ⟨_, rfl⟩
          have hx32 : x.length = 32 := by rw [← hx]; exact HT.out.2.1.id
          have HQE := hid (HQ5.out.keep (Below.refl _ _).drew)
          have hcx : (loadVar 32 ⟨a0, off + k * 36 + 3, none⟩).run Try.prog w5.drew = .ok (.agg (bcells x)) w5.drew := arow_load hx32 fun i v hv => by
            have hi : i < 32 := by
              have := (Array.getElem?_eq_some_iff.1 hv).1
              rw [bcells_size, hx32] at this
              exact this
            have := HC0.out (3 + i) v (by
              show (Value.int .i64 t.kind :: .string (strB t.repo) :: .string (strB t.to) :: (t.id.map bv ++ [.int .i64 t.size]))[3 + i]? = some v
              rw [Nat.add_comm, List.getElem?_cons_succ, List.getElem?_cons_succ, List.getElem?_cons_succ, List.getElem?_append_left (by rw [hx]; simp; omega), hx]
              simpa [bcells] using hv)
            rw [Nat.add_assoc]
            exact cell_keep this (HQE.out.below)
          have hnb := (HQE.out.blk (p := (b, 9, nb4)) (by simp))
          have hcn : w5.drew.cell? ⟨b, j, none⟩ = some (.string (strB (nm4 j))) := by
            rcases j with _ | _ | _ | _ | j
            · exact hnb.cell 0 rfl
            · exact hnb.cell 1 rfl
            · exact hnb.cell 2 rfl
            · exact hnb.cell 3 rfl
            · omega
          generalize hwd : w5.drew = wd at hcx hcn HQE
          have HWD := hid hwd
          have hjc : (j : Int) < 4 := by omega
          have hkc : (k : Int) < 9223372036854775807 := by omega
          have HC := hid (⟨hcn, hcx, hjc, hkc⟩ : wd.cell? ⟨b, j, none⟩ = some (.string (strB (nm4 j))) ∧ (loadVar 32 ⟨a0, off + k * 36 + 3, none⟩).run Try.prog wd = .ok (.agg (bcells x)) wd ∧ (j : Int) < 4 ∧ (k : Int) < 9223372036854775807)
          have HX := hid (⟨hx, hx32⟩ : t.id = x ∧ x.length = 32)
          clear hcn hcx hwd hnb hx hx32 hjc hkc
          by_cases hk1 : kd = 1
          · have hk1' : (kd == 1) = true := by simp [hk1]
            obtain ⟨is, fe, hres⟩ : ∃ is fe, addR q (nm4 j, x) z true = (is, fe) := ⟨_, _, rfl⟩
            obtain ⟨q2, hq2⟩ : ∃ q2, addS q (nm4 j, x) z true = q2 := ⟨_, rfl⟩
            have HL := hid (HQE.out.lay (ask_nm4 j HX.out.2 hz0 (by omega) (by omega)))
            rw [hres, hq2] at HL
            unfold resV at HL
            have HR2 := hid (⟨hres, hq2⟩ : addR q (nm4 j, x) z true = (is, fe) ∧ addS q (nm4 j, x) z true = q2)
            have HKD := hid hkd
            clear hres hq2 hkd
            go_wp2_with fail
            refine wp_region_invG 213 () (sm16Val s b a0 off n c k j x z is fe) (fun f _ W => WrS wd 11 (fun W' => Q2 w [(c2, 3, sumsA q.l), (b, 9, nb4)] W' s (k + 1) q2) f W) (by kernel_rfl) (by kernel_rfl) (by exact Nat.le_refl 213) ?_ ?_ ?_
            · exact (by rw [HWD.out]; exact WrS.start 17 (by decide))
            · intro i o f gh a W hi hf hdep hsame hcl hval hS
              rcases i with _ | _ | _ | _ | _ | _ | _ | _ | _ | _ | _ | _ | _ | _ | _ | _ | _ | i
              all_goals simp only [List.getElem?_cons_succ, List.getElem?_cons_zero, List.getElem?_nil, Option.some.injEq, reduceCtorEq] at hi
              all_goals subst hi
              · have E6 : a.tmps[6]? = some (.pointer (some ⟨s, 0, none⟩)) := (same_of hsame 6 (by rfl)).trans rfl
                have n11 := not_yet hcl hf 11 (by rfl)
                obtain rfl := (hS.pre n11).symm
                refine g_plain rfl ?_
                exact does_value (w' := _) (v := .pointer (some ⟨s, 0, none⟩)) (by go_simp) ⟨(), .inr rfl, (hS.same 0 (by decide))⟩
              · have E8 : a.tmps[8]? = some (.slice (some ⟨b, 0, none⟩) 4 4) := (same_of hsame 8 (by rfl)).trans rfl
                have n3 := not_yet hcl hf 3 (by rfl)
                have n4 := not_yet hcl n3 4 (by rfl)
                have n11 := not_yet hcl n4 11 (by rfl)
                obtain rfl := (hS.pre n11).symm
                refine g_plain rfl ?_
                exact does_value (w' := _) (v := .slice (some ⟨b, 0, none⟩) 4 4) (by go_simp) ⟨(), .inr rfl, (hS.same 1 (by decide))⟩
              · have E11 : a.tmps[11]? = some (.int .i64 (j : Int)) := (same_of hsame 11 (by rfl)).trans rfl
                have n3 := not_yet hcl hf 3 (by rfl)
                have n4 := not_yet hcl n3 4 (by rfl)
                have n11 := not_yet hcl n4 11 (by rfl)
                obtain rfl := (hS.pre n11).symm
                refine g_plain rfl ?_
                exact does_value (w' := _) (v := .int .i64 (j : Int)) (by go_simp) ⟨(), .inr rfl, (hS.same 2 (by decide))⟩
              · have E65 := hval 1 _ 65 rfl rfl (dep_of hdep 1 (by rfl))
                have E66 := hval 2 _ 66 rfl rfl (dep_of hdep 2 (by rfl))
                unfold sm16Val at E65 E66
                have n4 := not_yet hcl hf 4 (by rfl)
                have n11 := not_yet hcl n4 11 (by rfl)
                obtain rfl := (hS.pre n11).symm
                obtain ⟨cn, cx, hj4, hk3⟩ := HC.out
                refine g_plain rfl ?_
                exact does_value (w' := _) (v := .pointer (some ⟨b, j, none⟩)) (by go_simp) ⟨(), .inr rfl, (hS.same 3 (by decide))⟩
              · have E67 := hval 3 _ 67 rfl rfl (dep_of hdep 3 (by rfl))
                unfold sm16Val at E67
                have n11 := not_yet hcl hf 11 (by rfl)
                obtain rfl := (hS.pre n11).symm
                obtain ⟨cn, cx, hj4, hk3⟩ := HC.out
                refine g_plain rfl ?_
                exact does_value (w' := _) (v := .string (strB (nm4 j))) (by go_simp) ⟨(), .inr rfl, (hS.same 4 (by decide))⟩
              · have E1 : a.tmps[1]? = some (.slice (some ⟨a0, off, none⟩) n c) := (same_of hsame 1 (by rfl)).trans rfl
                have n7 := not_yet hcl hf 7 (by rfl)
                have n8 := not_yet hcl n7 8 (by rfl)
                have n9 := not_yet hcl n8 9 (by rfl)
                have n11 := not_yet hcl n9 11 (by rfl)
                obtain rfl := (hS.pre n11).symm
                refine g_plain rfl ?_
                exact does_value (w' := _) (v := .slice (some ⟨a0, off, none⟩) n c) (by go_simp) ⟨(), .inr rfl, (hS.same 5 (by decide))⟩
              · have E10 : a.tmps[10]? = some (.int .i64 (k : Int)) := (same_of hsame 10 (by rfl)).trans rfl
                have n7 := not_yet hcl hf 7 (by rfl)
                have n8 := not_yet hcl n7 8 (by rfl)
                have n9 := not_yet hcl n8 9 (by rfl)
                have n11 := not_yet hcl n9 11 (by rfl)
                obtain rfl := (hS.pre n11).symm
                refine g_plain rfl ?_
                exact does_value (w' := _) (v := .int .i64 (k : Int)) (by go_simp) ⟨(), .inr rfl, (hS.same 6 (by decide))⟩
              · have E69 := hval 5 _ 69 rfl rfl (dep_of hdep 5 (by rfl))
                have E70 := hval 6 _ 70 rfl rfl (dep_of hdep 6 (by rfl))
                unfold sm16Val at E69 E70
                have n8 := not_yet hcl hf 8 (by rfl)
                have n9 := not_yet hcl n8 9 (by rfl)
                have n11 := not_yet hcl n9 11 (by rfl)
                obtain rfl := (hS.pre n11).symm
                obtain ⟨cn, cx, hj4, hk3⟩ := HC.out
                refine g_plain rfl ?_
                exact does_value (w' := _) (v := .pointer (some ⟨a0, off + k * 36, none⟩)) (by go_simp) ⟨(), .inr rfl, (hS.same 7 (by decide))⟩
              · have E71 := hval 7 _ 71 rfl rfl (dep_of hdep 7 (by rfl))
                unfold sm16Val at E71
                have n9 := not_yet hcl hf 9 (by rfl)
                have n11 := not_yet hcl n9 11 (by rfl)
                obtain rfl := (hS.pre n11).symm
                obtain ⟨cn, cx, hj4, hk3⟩ := HC.out
                refine g_plain rfl ?_
                exact does_value (w' := _) (v := .pointer (some ⟨a0, off + k * 36 + 3, none⟩)) (by go_simp) ⟨(), .inr rfl, (hS.same 8 (by decide))⟩
              · have E72 := hval 8 _ 72 rfl rfl (dep_of hdep 8 (by rfl))
                unfold sm16Val at E72
                have n11 := not_yet hcl hf 11 (by rfl)
                obtain rfl := (hS.pre n11).symm
                obtain ⟨cn, cx, hj4, hk3⟩ := HC.out
                refine g_plain rfl ?_
                exact does_load_run 32 _ rfl ⟨a0, off + k * 36 + 3, none⟩ _ (by rw [eval_getD, E72]; rfl) cx ⟨(), .inr rfl, (hS.same 9 (by decide))⟩
              · have E12 : a.tmps[12]? = some (.int .i64 z) := (same_of hsame 12 (by rfl)).trans rfl
                have n11 := not_yet hcl hf 11 (by rfl)
                obtain rfl := (hS.pre n11).symm
                refine g_plain rfl ?_
                exact does_value (w' := _) (v := .int .i64 z) (by go_simp) ⟨(), .inr rfl, (hS.same 10 (by decide))⟩
              · have E64 := hval 0 _ 64 rfl rfl (dep_of hdep 0 (by rfl))
                have E68 := hval 4 _ 68 rfl rfl (dep_of hdep 4 (by rfl))
                have E73 := hval 9 _ 73 rfl rfl (dep_of hdep 9 (by rfl))
                have E74 := hval 10 _ 74 rfl rfl (dep_of hdep 10 (by rfl))
                unfold sm16Val at E64 E68 E73 E74
                refine g_plain rfl ?_
                obtain rfl := (hS.pre hf).symm
                refine does_call 13 #[.pointer (some ⟨s, 0, none⟩), .string (strB (nm4 j)), .agg (bcells x), .int .i64 z] (by go_simp) (HL.out.mono ?_)
                rintro _ W' ⟨rfl, hq⟩
                exact ⟨_, rfl, (), .inr rfl, WrS.done hq⟩
              · have E75 := hval 11 _ 75 rfl rfl (dep_of hdep 11 (by rfl))
                unfold sm16Val at E75
                refine g_plain rfl ?_
                exact does_value (w' := W) (v := .tuple #[.bool is, .int .i64 fe]) (by go_simp) ⟨(), .inr rfl, (hS.same 12 (by decide))⟩
              · have E63 := hval 12 _ 63 rfl rfl (dep_of hdep 12 (by rfl))
                unfold sm16Val at E63
                refine g_plain rfl ?_
                exact does_value (w' := W) (v := .bool is) (by go_simp) ⟨(), .inr rfl, (hS.same 13 (by decide))⟩
              · have E63 := hval 12 _ 63 rfl rfl (dep_of hdep 12 (by rfl))
                unfold sm16Val at E63
                refine g_plain rfl ?_
                exact does_value (w' := W) (v := .int .i64 fe) (by go_simp) ⟨(), .inr rfl, (hS.same 14 (by decide))⟩
              · have E76 := hval 13 _ 76 rfl rfl (dep_of hdep 13 (by rfl))
                unfold sm16Val at E76
                refine g_plain rfl ?_
                exact does_value (w' := W) (v := .bool is) (by go_simp) ⟨(), .inr rfl, (hS.same 15 (by decide))⟩
              · have E77 := hval 14 _ 77 rfl rfl (dep_of hdep 14 (by rfl))
                unfold sm16Val at E77
                refine g_plain rfl ?_
                exact does_value (w' := W) (v := .int .i64 fe) (by go_simp) ⟨(), .inr rfl, (hS.same 16 (by decide))⟩
            · intro gh w6 hS
              have HQ6 := hid (hS.post rfl)
              clear hS HC HL
              simp only [putAll, sm16Val, Nat.reduceAdd, Nat.zero_add, Act.put, List.setIfInBounds_toArray, List.set_cons_zero, List.set_cons_succ]

              rcases addR_cases q (nm4 j, x) z true with ⟨y, h1, h2⟩ | ⟨hnone, hal1, h1, h2⟩ | ⟨hf, h1, h2⟩
              · rw [HR2.out.1] at h1
                rw [HR2.out.2] at h2
                injection h1 with h1a h1b
                subst h1a
                subst q2
                by_cases hyz : y = z
                · rw [if_pos hyz] at h1b
                  subst h1b
                  have hkn : (kd != 1) = false := by simp [hk1]
                  have ck : w6.cell? ⟨a0, off + k * 36, none⟩ = some (.int .i64 kd) := by rw [← HKD.out]; exact cell_keep (HC0.out 0 _ rfl) HQ6.out.below
                  have hjc : (j : Int) < 4 := by omega
                  have HQN := HQ6
                  clear HQ6
                  go_wp2_with fail
                  go_loopw [4, 15] (fun v4 v15 wr => ∃ m : Nat, v4 = .bool false ∧ v15 = .int .i64 (m : Int) ∧ m ≤ 4 ∧ Hid (Q2 w [(c2, 3, sumsA q.l), (b, 9, nb4)] wr s (k + 1) q)) (fun _ v15 _ => 4 - (intOf v15).toNat)
                  case atStart => exact ⟨0, rfl, rfl, by omega, HQN⟩
                  case round =>
                    clear HQN ck
                    obtain ⟨m, rfl, rfl, hm, HQM⟩ := hrel
                    by_cases hm4 : m < 4
                    · have hm4' : (m : Int) < 4 := by omega
                      have HQD := hid (HQM.out.keep (Below.refl _ _).drew)
                      have HUS := hid (fun W (e : W = wr.drew) => (by rw [e]; exact HQD.out.use (nm4 m) (nm4_max m) : Calls Try.prog 29 #[.pointer (some ⟨s, 0, none⟩), .string (strB (nm4 m))] W fun e w' => e = .returned (.int .i64 (sumQ q.l (nm4 m))) ∧ W = w'))
                      have HC := hid (fun W (e : W = wr.drew) => (⟨by rw [e]; exact (HQD.out.blk (p := (b, 9, nb4)) (by simp)).cell m (nb4_at hm4), by rw [e]; exact (HQD.out.blk (p := (c2, 3, sumsA q.l)) (by simp)).cell m (sumsA_at _ hm4), hm4'⟩ : W.cell? ⟨b, m, none⟩ = some (.string (strB (nm4 m))) ∧ W.cell? ⟨c2, m, none⟩ = some (.int .i64 (sumQ q.l (nm4 m))) ∧ (m : Int) < 4))
                      generalize sumQ q.l (nm4 m) = sv at HUS HC
                      go_wp2_with fail
                      refine wp_region_invG 213 () (sm25Val s b c2 m sv) (fun _ _ W => Hid (W = wr.drew)) (by kernel_rfl) (by kernel_rfl) (by exact Nat.le_refl 213) ?_ ?_ ?_
                      · exact hid rfl
                      · intro i o f gh a W hi hf hdep hsame hcl hval hS
                        rcases i with _ | _ | _ | _ | _ | _ | _ | _ | _ | _ | _ | i
                        all_goals simp only [List.getElem?_cons_succ, List.getElem?_cons_zero, List.getElem?_nil, Option.some.injEq, reduceCtorEq] at hi
                        all_goals subst hi
                        · have E6 : a.tmps[6]? = some (.pointer (some ⟨s, 0, none⟩)) := (same_of hsame 6 (by rfl)).trans rfl
                          refine g_plain rfl ?_
                          exact does_value (w' := W) (v := .pointer (some ⟨s, 0, none⟩)) (by go_simp) ⟨(), .inr rfl, hS⟩
                        · have E8 : a.tmps[8]? = some (.slice (some ⟨b, 0, none⟩) 4 4) := (same_of hsame 8 (by rfl)).trans rfl
                          refine g_plain rfl ?_
                          exact does_value (w' := W) (v := .slice (some ⟨b, 0, none⟩) 4 4) (by go_simp) ⟨(), .inr rfl, hS⟩
                        · have E15 : a.tmps[15]? = some (.int .i64 (m : Int)) := (same_of hsame 15 (by rfl)).trans rfl
                          refine g_plain rfl ?_
                          exact does_value (w' := W) (v := .int .i64 (m : Int)) (by go_simp) ⟨(), .inr rfl, hS⟩
                        · have E158 := hval 1 _ 158 rfl rfl (dep_of hdep 1 (by rfl))
                          have E159 := hval 2 _ 159 rfl rfl (dep_of hdep 2 (by rfl))
                          unfold sm25Val at E158 E159
                          obtain ⟨cn, cs, hm3⟩ := HC.out W hS.out
                          refine g_plain rfl ?_
                          exact does_value (w' := W) (v := .pointer (some ⟨b, m, none⟩)) (by go_simp) ⟨(), .inr rfl, hS⟩
                        · have E160 := hval 3 _ 160 rfl rfl (dep_of hdep 3 (by rfl))
                          unfold sm25Val at E160
                          obtain ⟨cn, cs, hm3⟩ := HC.out W hS.out
                          refine g_plain rfl ?_
                          exact does_value (w' := W) (v := .string (strB (nm4 m))) (by go_simp) ⟨(), .inr rfl, hS⟩
                        · have E157 := hval 0 _ 157 rfl rfl (dep_of hdep 0 (by rfl))
                          have E161 := hval 4 _ 161 rfl rfl (dep_of hdep 4 (by rfl))
                          unfold sm25Val at E157 E161
                          refine g_plain rfl ?_
                          refine does_call 29 #[.pointer (some ⟨s, 0, none⟩), .string (strB (nm4 m))] (by go_simp) ((HUS.out W hS.out).mono ?_)
                          rintro _ W' ⟨rfl, rfl⟩
                          exact ⟨_, rfl, (), .inr rfl, hS⟩
                        · have E9 : a.tmps[9]? = some (.slice (some ⟨c2, 0, none⟩) 4 4) := (same_of hsame 9 (by rfl)).trans rfl
                          refine g_plain rfl ?_
                          exact does_value (w' := W) (v := .slice (some ⟨c2, 0, none⟩) 4 4) (by go_simp) ⟨(), .inr rfl, hS⟩
                        · have E15 : a.tmps[15]? = some (.int .i64 (m : Int)) := (same_of hsame 15 (by rfl)).trans rfl
                          refine g_plain rfl ?_
                          exact does_value (w' := W) (v := .int .i64 (m : Int)) (by go_simp) ⟨(), .inr rfl, hS⟩
                        · have E163 := hval 6 _ 163 rfl rfl (dep_of hdep 6 (by rfl))
                          have E164 := hval 7 _ 164 rfl rfl (dep_of hdep 7 (by rfl))
                          unfold sm25Val at E163 E164
                          obtain ⟨cn, cs, hm3⟩ := HC.out W hS.out
                          refine g_plain rfl ?_
                          exact does_value (w' := W) (v := .pointer (some ⟨c2, m, none⟩)) (by go_simp) ⟨(), .inr rfl, hS⟩
                        · have E165 := hval 8 _ 165 rfl rfl (dep_of hdep 8 (by rfl))
                          unfold sm25Val at E165
                          obtain ⟨cn, cs, hm3⟩ := HC.out W hS.out
                          refine g_plain rfl ?_
                          exact does_value (w' := W) (v := .int .i64 sv) (by go_simp) ⟨(), .inr rfl, hS⟩
                        · have E162 := hval 5 _ 162 rfl rfl (dep_of hdep 5 (by rfl))
                          have E166 := hval 9 _ 166 rfl rfl (dep_of hdep 9 (by rfl))
                          unfold sm25Val at E162 E166
                          refine g_plain rfl ?_
                          exact does_value (w' := W) (v := .bool false) (by go_simp) ⟨(), .inr rfl, hS⟩
                      · intro gh W hS
                        have hS := hS.out
                        subst hS
                        simp only [putAll, sm25Val, Nat.reduceAdd, Nat.zero_add, Act.put, List.setIfInBounds_toArray, List.set_cons_zero, List.set_cons_succ]
                        clear HC HUS HQM
                        go_wp2_with fail
                        go_roundw
                        case rel => exact ⟨m + 1, rfl, by go_num, by omega, HQD⟩
                        case measure => simp [intOf]; omega
                    · obtain rfl : m = 4 := by omega
                      rw [show ((4 : Nat) : Int) = 4 from rfl]
                      go_wp2_with fail
                      go_roundw
                      case rel => exact ⟨k + 1, rfl, by go_num, by omega, hid ⟨_, HQM.out, hql, by omega⟩⟩
                      case measure => simp [intOf]; omega
                · rw [if_neg hyz] at h1b
                  subst h1b
                  have hkn : (kd != 1) = false := by simp [hk1]
                  have ck : w6.cell? ⟨a0, off + k * 36, none⟩ = some (.int .i64 kd) := by rw [← HKD.out]; exact cell_keep (HC0.out 0 _ rfl) HQ6.out.below
                  have hjc : (j : Int) < 4 := by omega
                  have HQN := HQ6
                  clear HQ6
                  go_wp2_with fail
                  go_loopw [4, 15] (fun v4 v15 wr => ∃ m : Nat, v4 = .bool false ∧ v15 = .int .i64 (m : Int) ∧ m ≤ 4 ∧ Hid (Q2 w [(c2, 3, sumsA q.l), (b, 9, nb4)] wr s (k + 1) q)) (fun _ v15 _ => 4 - (intOf v15).toNat)
                  case atStart => exact ⟨0, rfl, rfl, by omega, HQN⟩
                  case round =>
                    clear HQN ck
                    obtain ⟨m, rfl, rfl, hm, HQM⟩ := hrel
                    by_cases hm4 : m < 4
                    · have hm4' : (m : Int) < 4 := by omega
                      have HQD := hid (HQM.out.keep (Below.refl _ _).drew)
                      have HUS := hid (fun W (e : W = wr.drew) => (by rw [e]; exact HQD.out.use (nm4 m) (nm4_max m) : Calls Try.prog 29 #[.pointer (some ⟨s, 0, none⟩), .string (strB (nm4 m))] W fun e w' => e = .returned (.int .i64 (sumQ q.l (nm4 m))) ∧ W = w'))
                      have HC := hid (fun W (e : W = wr.drew) => (⟨by rw [e]; exact (HQD.out.blk (p := (b, 9, nb4)) (by simp)).cell m (nb4_at hm4), by rw [e]; exact (HQD.out.blk (p := (c2, 3, sumsA q.l)) (by simp)).cell m (sumsA_at _ hm4), hm4'⟩ : W.cell? ⟨b, m, none⟩ = some (.string (strB (nm4 m))) ∧ W.cell? ⟨c2, m, none⟩ = some (.int .i64 (sumQ q.l (nm4 m))) ∧ (m : Int) < 4))
                      generalize sumQ q.l (nm4 m) = sv at HUS HC
                      go_wp2_with fail
                      refine wp_region_invG 213 () (sm25Val s b c2 m sv) (fun _ _ W => Hid (W = wr.drew)) (by kernel_rfl) (by kernel_rfl) (by exact Nat.le_refl 213) ?_ ?_ ?_
                      · exact hid rfl
                      · intro i o f gh a W hi hf hdep hsame hcl hval hS
                        rcases i with _ | _ | _ | _ | _ | _ | _ | _ | _ | _ | _ | i
                        all_goals simp only [List.getElem?_cons_succ, List.getElem?_cons_zero, List.getElem?_nil, Option.some.injEq, reduceCtorEq] at hi
                        all_goals subst hi
                        · have E6 : a.tmps[6]? = some (.pointer (some ⟨s, 0, none⟩)) := (same_of hsame 6 (by rfl)).trans rfl
                          refine g_plain rfl ?_
                          exact does_value (w' := W) (v := .pointer (some ⟨s, 0, none⟩)) (by go_simp) ⟨(), .inr rfl, hS⟩
                        · have E8 : a.tmps[8]? = some (.slice (some ⟨b, 0, none⟩) 4 4) := (same_of hsame 8 (by rfl)).trans rfl
                          refine g_plain rfl ?_
                          exact does_value (w' := W) (v := .slice (some ⟨b, 0, none⟩) 4 4) (by go_simp) ⟨(), .inr rfl, hS⟩
                        · have E15 : a.tmps[15]? = some (.int .i64 (m : Int)) := (same_of hsame 15 (by rfl)).trans rfl
                          refine g_plain rfl ?_
                          exact does_value (w' := W) (v := .int .i64 (m : Int)) (by go_simp) ⟨(), .inr rfl, hS⟩
                        · have E158 := hval 1 _ 158 rfl rfl (dep_of hdep 1 (by rfl))
                          have E159 := hval 2 _ 159 rfl rfl (dep_of hdep 2 (by rfl))
                          unfold sm25Val at E158 E159
                          obtain ⟨cn, cs, hm3⟩ := HC.out W hS.out
                          refine g_plain rfl ?_
                          exact does_value (w' := W) (v := .pointer (some ⟨b, m, none⟩)) (by go_simp) ⟨(), .inr rfl, hS⟩
                        · have E160 := hval 3 _ 160 rfl rfl (dep_of hdep 3 (by rfl))
                          unfold sm25Val at E160
                          obtain ⟨cn, cs, hm3⟩ := HC.out W hS.out
                          refine g_plain rfl ?_
                          exact does_value (w' := W) (v := .string (strB (nm4 m))) (by go_simp) ⟨(), .inr rfl, hS⟩
                        · have E157 := hval 0 _ 157 rfl rfl (dep_of hdep 0 (by rfl))
                          have E161 := hval 4 _ 161 rfl rfl (dep_of hdep 4 (by rfl))
                          unfold sm25Val at E157 E161
                          refine g_plain rfl ?_
                          refine does_call 29 #[.pointer (some ⟨s, 0, none⟩), .string (strB (nm4 m))] (by go_simp) ((HUS.out W hS.out).mono ?_)
                          rintro _ W' ⟨rfl, rfl⟩
                          exact ⟨_, rfl, (), .inr rfl, hS⟩
                        · have E9 : a.tmps[9]? = some (.slice (some ⟨c2, 0, none⟩) 4 4) := (same_of hsame 9 (by rfl)).trans rfl
                          refine g_plain rfl ?_
                          exact does_value (w' := W) (v := .slice (some ⟨c2, 0, none⟩) 4 4) (by go_simp) ⟨(), .inr rfl, hS⟩
                        · have E15 : a.tmps[15]? = some (.int .i64 (m : Int)) := (same_of hsame 15 (by rfl)).trans rfl
                          refine g_plain rfl ?_
                          exact does_value (w' := W) (v := .int .i64 (m : Int)) (by go_simp) ⟨(), .inr rfl, hS⟩
                        · have E163 := hval 6 _ 163 rfl rfl (dep_of hdep 6 (by rfl))
                          have E164 := hval 7 _ 164 rfl rfl (dep_of hdep 7 (by rfl))
                          unfold sm25Val at E163 E164
                          obtain ⟨cn, cs, hm3⟩ := HC.out W hS.out
                          refine g_plain rfl ?_
                          exact does_value (w' := W) (v := .pointer (some ⟨c2, m, none⟩)) (by go_simp) ⟨(), .inr rfl, hS⟩
                        · have E165 := hval 8 _ 165 rfl rfl (dep_of hdep 8 (by rfl))
                          unfold sm25Val at E165
                          obtain ⟨cn, cs, hm3⟩ := HC.out W hS.out
                          refine g_plain rfl ?_
                          exact does_value (w' := W) (v := .int .i64 sv) (by go_simp) ⟨(), .inr rfl, hS⟩
                        · have E162 := hval 5 _ 162 rfl rfl (dep_of hdep 5 (by rfl))
                          have E166 := hval 9 _ 166 rfl rfl (dep_of hdep 9 (by rfl))
                          unfold sm25Val at E162 E166
                          refine g_plain rfl ?_
                          exact does_value (w' := W) (v := .bool false) (by go_simp) ⟨(), .inr rfl, hS⟩
                      · intro gh W hS
                        have hS := hS.out
                        subst hS
                        simp only [putAll, sm25Val, Nat.reduceAdd, Nat.zero_add, Act.put, List.setIfInBounds_toArray, List.set_cons_zero, List.set_cons_succ]
                        clear HC HUS HQM
                        go_wp2_with fail
                        go_roundw
                        case rel => exact ⟨m + 1, rfl, by go_num, by omega, HQD⟩
                        case measure => simp [intOf]; omega
                    · obtain rfl : m = 4 := by omega
                      rw [show ((4 : Nat) : Int) = 4 from rfl]
                      go_wp2_with fail
                      go_roundw
                      case rel => exact ⟨k + 1, rfl, by go_num, by omega, hid ⟨_, HQM.out, hql, by omega⟩⟩
                      case measure => simp [intOf]; omega
              · rw [HR2.out.1] at h1
                rw [HR2.out.2] at h2
                injection h1 with h1a h1b
                subst h1a
                subst q2
                subst h1b
                have hkn : (kd != 1) = false := by simp [hk1]
                have ck : w6.cell? ⟨a0, off + k * 36, none⟩ = some (.int .i64 kd) := by rw [← HKD.out]; exact cell_keep (HC0.out 0 _ rfl) HQ6.out.below
                have hjc : (j : Int) < 4 := by omega
                have hbs := HOQ.out.sum (nm4 j)
                obtain ⟨S, hS⟩ : ∃ S, sumQ q.l (nm4 j) = S := ⟨_, rfl⟩
                rw [hS] at hbs
                have d6 : w6.cell? ⟨c2, j, none⟩ = some (.int .i64 S) := by rw [← hS]; exact (HQ6.out.blk (p := (c2, 3, sumsA q.l)) (by simp)).cell j (sumsA_at _ hj4)
                have f6 := (HQ6.out.blk (p := (c2, 3, sumsA q.l)) (by simp)).frozen j
                have HQ7 := hid (HQ6.out.set HBC.out.1 (fun p hp => by simp at hp; rw [hp]; exact fun e => HBC.out.2 e.symm) j (.int .i64 (S + z)))
                rw [← hS, ← sumsA_app q.l hj4 x z, hS] at HQ7
                have ck7 : (w6.setCell ⟨c2, j, none⟩ (.int .i64 (S + z))).cell? ⟨a0, off + k * 36, none⟩ = some (.int .i64 kd) := by rw [← HKD.out]; exact cell_keep (HC0.out 0 _ rfl) HQ7.out.below
                have d7 : (w6.setCell ⟨c2, j, none⟩ (.int .i64 (S + z))).cell? ⟨c2, j, none⟩ = some (.int .i64 (S + z)) := by
                  have := (HQ7.out.blk (p := (c2, 3, sumsA (q.l ++ [((nm4 j, x), z)]))) (by simp)).cell j (sumsA_at _ hj4)
                  rw [sumQ_app q.l (nm4 j, x) z, hS] at this
                  exact this
                generalize hw7 : w6.setCell ⟨c2, j, none⟩ (.int .i64 (S + z)) = w7 at HQ7 ck7 d7
                have HQN := HQ7
                clear HQ6 HQ7 hS
                go_wp2_with fail
                clear hw7 d6 f6 d7 ck
                go_loopw [4, 15] (fun v4 v15 wr => ∃ m : Nat, v4 = .bool false ∧ v15 = .int .i64 (m : Int) ∧ m ≤ 4 ∧ Hid (Q2 w [(c2, 3, sumsA (q.l ++ [((nm4 j, x), z)])), (b, 9, nb4)] wr s (k + 1) { q with l := q.l ++ [((nm4 j, x), z)] })) (fun _ v15 _ => 4 - (intOf v15).toNat)
                case atStart => exact ⟨0, rfl, rfl, by omega, HQN⟩
                case round =>
                  clear HQN ck7 hbs
                  obtain ⟨m, rfl, rfl, hm, HQM⟩ := hrel
                  by_cases hm4 : m < 4
                  · have hm4' : (m : Int) < 4 := by omega
                    have HQD := hid (HQM.out.keep (Below.refl _ _).drew)
                    have HUS := hid (fun W (e : W = wr.drew) => (by rw [e]; exact HQD.out.use (nm4 m) (nm4_max m) : Calls Try.prog 29 #[.pointer (some ⟨s, 0, none⟩), .string (strB (nm4 m))] W fun e w' => e = .returned (.int .i64 (sumQ (q.l ++ [((nm4 j, x), z)]) (nm4 m))) ∧ W = w'))
                    have HC := hid (fun W (e : W = wr.drew) => (⟨by rw [e]; exact (HQD.out.blk (p := (b, 9, nb4)) (by simp)).cell m (nb4_at hm4), by rw [e]; exact (HQD.out.blk (p := (c2, 3, sumsA (q.l ++ [((nm4 j, x), z)]))) (by simp)).cell m (sumsA_at _ hm4), hm4'⟩ : W.cell? ⟨b, m, none⟩ = some (.string (strB (nm4 m))) ∧ W.cell? ⟨c2, m, none⟩ = some (.int .i64 (sumQ (q.l ++ [((nm4 j, x), z)]) (nm4 m))) ∧ (m : Int) < 4))
                    generalize sumQ (q.l ++ [((nm4 j, x), z)]) (nm4 m) = sv at HUS HC
                    go_wp2_with fail
                    refine wp_region_invG 213 () (sm25Val s b c2 m sv) (fun _ _ W => Hid (W = wr.drew)) (by kernel_rfl) (by kernel_rfl) (by exact Nat.le_refl 213) ?_ ?_ ?_
                    · exact hid rfl
                    · intro i o f gh a W hi hf hdep hsame hcl hval hS
                      rcases i with _ | _ | _ | _ | _ | _ | _ | _ | _ | _ | _ | i
                      all_goals simp only [List.getElem?_cons_succ, List.getElem?_cons_zero, List.getElem?_nil, Option.some.injEq, reduceCtorEq] at hi
                      all_goals subst hi
                      · have E6 : a.tmps[6]? = some (.pointer (some ⟨s, 0, none⟩)) := (same_of hsame 6 (by rfl)).trans rfl
                        refine g_plain rfl ?_
                        exact does_value (w' := W) (v := .pointer (some ⟨s, 0, none⟩)) (by go_simp) ⟨(), .inr rfl, hS⟩
                      · have E8 : a.tmps[8]? = some (.slice (some ⟨b, 0, none⟩) 4 4) := (same_of hsame 8 (by rfl)).trans rfl
                        refine g_plain rfl ?_
                        exact does_value (w' := W) (v := .slice (some ⟨b, 0, none⟩) 4 4) (by go_simp) ⟨(), .inr rfl, hS⟩
                      · have E15 : a.tmps[15]? = some (.int .i64 (m : Int)) := (same_of hsame 15 (by rfl)).trans rfl
                        refine g_plain rfl ?_
                        exact does_value (w' := W) (v := .int .i64 (m : Int)) (by go_simp) ⟨(), .inr rfl, hS⟩
                      · have E158 := hval 1 _ 158 rfl rfl (dep_of hdep 1 (by rfl))
                        have E159 := hval 2 _ 159 rfl rfl (dep_of hdep 2 (by rfl))
                        unfold sm25Val at E158 E159
                        obtain ⟨cn, cs, hm3⟩ := HC.out W hS.out
                        refine g_plain rfl ?_
                        exact does_value (w' := W) (v := .pointer (some ⟨b, m, none⟩)) (by go_simp) ⟨(), .inr rfl, hS⟩
                      · have E160 := hval 3 _ 160 rfl rfl (dep_of hdep 3 (by rfl))
                        unfold sm25Val at E160
                        obtain ⟨cn, cs, hm3⟩ := HC.out W hS.out
                        refine g_plain rfl ?_
                        exact does_value (w' := W) (v := .string (strB (nm4 m))) (by go_simp) ⟨(), .inr rfl, hS⟩
                      · have E157 := hval 0 _ 157 rfl rfl (dep_of hdep 0 (by rfl))
                        have E161 := hval 4 _ 161 rfl rfl (dep_of hdep 4 (by rfl))
                        unfold sm25Val at E157 E161
                        refine g_plain rfl ?_
                        refine does_call 29 #[.pointer (some ⟨s, 0, none⟩), .string (strB (nm4 m))] (by go_simp) ((HUS.out W hS.out).mono ?_)
                        rintro _ W' ⟨rfl, rfl⟩
                        exact ⟨_, rfl, (), .inr rfl, hS⟩
                      · have E9 : a.tmps[9]? = some (.slice (some ⟨c2, 0, none⟩) 4 4) := (same_of hsame 9 (by rfl)).trans rfl
                        refine g_plain rfl ?_
                        exact does_value (w' := W) (v := .slice (some ⟨c2, 0, none⟩) 4 4) (by go_simp) ⟨(), .inr rfl, hS⟩
                      · have E15 : a.tmps[15]? = some (.int .i64 (m : Int)) := (same_of hsame 15 (by rfl)).trans rfl
                        refine g_plain rfl ?_
                        exact does_value (w' := W) (v := .int .i64 (m : Int)) (by go_simp) ⟨(), .inr rfl, hS⟩
                      · have E163 := hval 6 _ 163 rfl rfl (dep_of hdep 6 (by rfl))
                        have E164 := hval 7 _ 164 rfl rfl (dep_of hdep 7 (by rfl))
                        unfold sm25Val at E163 E164
                        obtain ⟨cn, cs, hm3⟩ := HC.out W hS.out
                        refine g_plain rfl ?_
                        exact does_value (w' := W) (v := .pointer (some ⟨c2, m, none⟩)) (by go_simp) ⟨(), .inr rfl, hS⟩
                      · have E165 := hval 8 _ 165 rfl rfl (dep_of hdep 8 (by rfl))
                        unfold sm25Val at E165
                        obtain ⟨cn, cs, hm3⟩ := HC.out W hS.out
                        refine g_plain rfl ?_
                        exact does_value (w' := W) (v := .int .i64 sv) (by go_simp) ⟨(), .inr rfl, hS⟩
                      · have E162 := hval 5 _ 162 rfl rfl (dep_of hdep 5 (by rfl))
                        have E166 := hval 9 _ 166 rfl rfl (dep_of hdep 9 (by rfl))
                        unfold sm25Val at E162 E166
                        refine g_plain rfl ?_
                        exact does_value (w' := W) (v := .bool false) (by go_simp) ⟨(), .inr rfl, hS⟩
                    · intro gh W hS
                      have hS := hS.out
                      subst hS
                      simp only [putAll, sm25Val, Nat.reduceAdd, Nat.zero_add, Act.put, List.setIfInBounds_toArray, List.set_cons_zero, List.set_cons_succ]
                      clear HC HUS HQM
                      go_wp2_with fail
                      go_roundw
                      case rel => exact ⟨m + 1, rfl, by go_num, by omega, HQD⟩
                      case measure => simp [intOf]; omega
                  · obtain rfl : m = 4 := by omega
                    rw [show ((4 : Nat) : Int) = 4 from rfl]
                    go_wp2_with fail
                    go_roundw
                    case rel => exact ⟨k + 1, rfl, by go_num, by omega, hid ⟨_, HQM.out, hql, by simp; omega⟩⟩
                    case measure => simp [intOf]; omega
              · cases hf

          · have hk1' : (kd == 1) = false := by simpa using hk1
            obtain ⟨al, hal⟩ : ∃ al, decide (sumQ q.l (nm4 j) + z ≤ q.limit) = al := ⟨_, rfl⟩
            obtain ⟨is, fe, hres⟩ : ∃ is fe, addR q (nm4 j, x) z al = (is, fe) := ⟨_, _, rfl⟩
            obtain ⟨q2, hq2⟩ : ∃ q2, addS q (nm4 j, x) z al = q2 := ⟨_, rfl⟩
            have HL := hid (HQE.out.link (ask_nm4 j HX.out.2 hz0 (by omega) (by omega)))
            rw [hal, hres, hq2] at HL
            unfold resV at HL
            have HR2 := hid (⟨hal, hres, hq2⟩ : decide (sumQ q.l (nm4 j) + z ≤ q.limit) = al ∧ addR q (nm4 j, x) z al = (is, fe) ∧ addS q (nm4 j, x) z al = q2)
            have HKD := hid hkd
            clear hal hres hq2 hkd
            go_wp2_with fail
            refine wp_region_invG 213 () (sm17Val s b a0 off n c k j x z is fe) (fun f _ W => WrS wd 11 (fun W' => Q2 w [(c2, 3, sumsA q.l), (b, 9, nb4)] W' s (k + 1) q2) f W) (by kernel_rfl) (by kernel_rfl) (by exact Nat.le_refl 213) ?_ ?_ ?_
            · exact (by rw [HWD.out]; exact WrS.start 17 (by decide))
            · intro i o f gh a W hi hf hdep hsame hcl hval hS
              rcases i with _ | _ | _ | _ | _ | _ | _ | _ | _ | _ | _ | _ | _ | _ | _ | _ | _ | i
              all_goals simp only [List.getElem?_cons_succ, List.getElem?_cons_zero, List.getElem?_nil, Option.some.injEq, reduceCtorEq] at hi
              all_goals subst hi
              · have E6 : a.tmps[6]? = some (.pointer (some ⟨s, 0, none⟩)) := (same_of hsame 6 (by rfl)).trans rfl
                have n11 := not_yet hcl hf 11 (by rfl)
                obtain rfl := (hS.pre n11).symm
                refine g_plain rfl ?_
                exact does_value (w' := _) (v := .pointer (some ⟨s, 0, none⟩)) (by go_simp) ⟨(), .inr rfl, (hS.same 0 (by decide))⟩
              · have E8 : a.tmps[8]? = some (.slice (some ⟨b, 0, none⟩) 4 4) := (same_of hsame 8 (by rfl)).trans rfl
                have n3 := not_yet hcl hf 3 (by rfl)
                have n4 := not_yet hcl n3 4 (by rfl)
                have n11 := not_yet hcl n4 11 (by rfl)
                obtain rfl := (hS.pre n11).symm
                refine g_plain rfl ?_
                exact does_value (w' := _) (v := .slice (some ⟨b, 0, none⟩) 4 4) (by go_simp) ⟨(), .inr rfl, (hS.same 1 (by decide))⟩
              · have E11 : a.tmps[11]? = some (.int .i64 (j : Int)) := (same_of hsame 11 (by rfl)).trans rfl
                have n3 := not_yet hcl hf 3 (by rfl)
                have n4 := not_yet hcl n3 4 (by rfl)
                have n11 := not_yet hcl n4 11 (by rfl)
                obtain rfl := (hS.pre n11).symm
                refine g_plain rfl ?_
                exact does_value (w' := _) (v := .int .i64 (j : Int)) (by go_simp) ⟨(), .inr rfl, (hS.same 2 (by decide))⟩
              · have E80 := hval 1 _ 80 rfl rfl (dep_of hdep 1 (by rfl))
                have E81 := hval 2 _ 81 rfl rfl (dep_of hdep 2 (by rfl))
                unfold sm17Val at E80 E81
                have n4 := not_yet hcl hf 4 (by rfl)
                have n11 := not_yet hcl n4 11 (by rfl)
                obtain rfl := (hS.pre n11).symm
                obtain ⟨cn, cx, hj4, hk3⟩ := HC.out
                refine g_plain rfl ?_
                exact does_value (w' := _) (v := .pointer (some ⟨b, j, none⟩)) (by go_simp) ⟨(), .inr rfl, (hS.same 3 (by decide))⟩
              · have E82 := hval 3 _ 82 rfl rfl (dep_of hdep 3 (by rfl))
                unfold sm17Val at E82
                have n11 := not_yet hcl hf 11 (by rfl)
                obtain rfl := (hS.pre n11).symm
                obtain ⟨cn, cx, hj4, hk3⟩ := HC.out
                refine g_plain rfl ?_
                exact does_value (w' := _) (v := .string (strB (nm4 j))) (by go_simp) ⟨(), .inr rfl, (hS.same 4 (by decide))⟩
              · have E1 : a.tmps[1]? = some (.slice (some ⟨a0, off, none⟩) n c) := (same_of hsame 1 (by rfl)).trans rfl
                have n7 := not_yet hcl hf 7 (by rfl)
                have n8 := not_yet hcl n7 8 (by rfl)
                have n9 := not_yet hcl n8 9 (by rfl)
                have n11 := not_yet hcl n9 11 (by rfl)
                obtain rfl := (hS.pre n11).symm
                refine g_plain rfl ?_
                exact does_value (w' := _) (v := .slice (some ⟨a0, off, none⟩) n c) (by go_simp) ⟨(), .inr rfl, (hS.same 5 (by decide))⟩
              · have E10 : a.tmps[10]? = some (.int .i64 (k : Int)) := (same_of hsame 10 (by rfl)).trans rfl
                have n7 := not_yet hcl hf 7 (by rfl)
                have n8 := not_yet hcl n7 8 (by rfl)
                have n9 := not_yet hcl n8 9 (by rfl)
                have n11 := not_yet hcl n9 11 (by rfl)
                obtain rfl := (hS.pre n11).symm
                refine g_plain rfl ?_
                exact does_value (w' := _) (v := .int .i64 (k : Int)) (by go_simp) ⟨(), .inr rfl, (hS.same 6 (by decide))⟩
              · have E84 := hval 5 _ 84 rfl rfl (dep_of hdep 5 (by rfl))
                have E85 := hval 6 _ 85 rfl rfl (dep_of hdep 6 (by rfl))
                unfold sm17Val at E84 E85
                have n8 := not_yet hcl hf 8 (by rfl)
                have n9 := not_yet hcl n8 9 (by rfl)
                have n11 := not_yet hcl n9 11 (by rfl)
                obtain rfl := (hS.pre n11).symm
                obtain ⟨cn, cx, hj4, hk3⟩ := HC.out
                refine g_plain rfl ?_
                exact does_value (w' := _) (v := .pointer (some ⟨a0, off + k * 36, none⟩)) (by go_simp) ⟨(), .inr rfl, (hS.same 7 (by decide))⟩
              · have E86 := hval 7 _ 86 rfl rfl (dep_of hdep 7 (by rfl))
                unfold sm17Val at E86
                have n9 := not_yet hcl hf 9 (by rfl)
                have n11 := not_yet hcl n9 11 (by rfl)
                obtain rfl := (hS.pre n11).symm
                obtain ⟨cn, cx, hj4, hk3⟩ := HC.out
                refine g_plain rfl ?_
                exact does_value (w' := _) (v := .pointer (some ⟨a0, off + k * 36 + 3, none⟩)) (by go_simp) ⟨(), .inr rfl, (hS.same 8 (by decide))⟩
              · have E87 := hval 8 _ 87 rfl rfl (dep_of hdep 8 (by rfl))
                unfold sm17Val at E87
                have n11 := not_yet hcl hf 11 (by rfl)
                obtain rfl := (hS.pre n11).symm
                obtain ⟨cn, cx, hj4, hk3⟩ := HC.out
                refine g_plain rfl ?_
                exact does_load_run 32 _ rfl ⟨a0, off + k * 36 + 3, none⟩ _ (by rw [eval_getD, E87]; rfl) cx ⟨(), .inr rfl, (hS.same 9 (by decide))⟩
              · have E12 : a.tmps[12]? = some (.int .i64 z) := (same_of hsame 12 (by rfl)).trans rfl
                have n11 := not_yet hcl hf 11 (by rfl)
                obtain rfl := (hS.pre n11).symm
                refine g_plain rfl ?_
                exact does_value (w' := _) (v := .int .i64 z) (by go_simp) ⟨(), .inr rfl, (hS.same 10 (by decide))⟩
              · have E79 := hval 0 _ 79 rfl rfl (dep_of hdep 0 (by rfl))
                have E83 := hval 4 _ 83 rfl rfl (dep_of hdep 4 (by rfl))
                have E88 := hval 9 _ 88 rfl rfl (dep_of hdep 9 (by rfl))
                have E89 := hval 10 _ 89 rfl rfl (dep_of hdep 10 (by rfl))
                unfold sm17Val at E79 E83 E88 E89
                refine g_plain rfl ?_
                obtain rfl := (hS.pre hf).symm
                refine does_call 11 #[.pointer (some ⟨s, 0, none⟩), .string (strB (nm4 j)), .agg (bcells x), .int .i64 z] (by go_simp) (HL.out.mono ?_)
                rintro _ W' ⟨rfl, hq⟩
                exact ⟨_, rfl, (), .inr rfl, WrS.done hq⟩
              · have E90 := hval 11 _ 90 rfl rfl (dep_of hdep 11 (by rfl))
                unfold sm17Val at E90
                refine g_plain rfl ?_
                exact does_value (w' := W) (v := .tuple #[.bool is, .int .i64 fe]) (by go_simp) ⟨(), .inr rfl, (hS.same 12 (by decide))⟩
              · have E78 := hval 12 _ 78 rfl rfl (dep_of hdep 12 (by rfl))
                unfold sm17Val at E78
                refine g_plain rfl ?_
                exact does_value (w' := W) (v := .bool is) (by go_simp) ⟨(), .inr rfl, (hS.same 13 (by decide))⟩
              · have E78 := hval 12 _ 78 rfl rfl (dep_of hdep 12 (by rfl))
                unfold sm17Val at E78
                refine g_plain rfl ?_
                exact does_value (w' := W) (v := .int .i64 fe) (by go_simp) ⟨(), .inr rfl, (hS.same 14 (by decide))⟩
              · have E91 := hval 13 _ 91 rfl rfl (dep_of hdep 13 (by rfl))
                unfold sm17Val at E91
                refine g_plain rfl ?_
                exact does_value (w' := W) (v := .bool is) (by go_simp) ⟨(), .inr rfl, (hS.same 15 (by decide))⟩
              · have E92 := hval 14 _ 92 rfl rfl (dep_of hdep 14 (by rfl))
                unfold sm17Val at E92
                refine g_plain rfl ?_
                exact does_value (w' := W) (v := .int .i64 fe) (by go_simp) ⟨(), .inr rfl, (hS.same 16 (by decide))⟩
            · intro gh w6 hS
              have HQ6 := hid (hS.post rfl)
              clear hS HC HL
              simp only [putAll, sm17Val, Nat.reduceAdd, Nat.zero_add, Act.put, List.setIfInBounds_toArray, List.set_cons_zero, List.set_cons_succ]

              rcases addR_cases q (nm4 j, x) z al with ⟨y, h1, h2⟩ | ⟨hnone, hal1, h1, h2⟩ | ⟨hf, h1, h2⟩
              · rw [HR2.out.2.1] at h1
                rw [HR2.out.2.2] at h2
                injection h1 with h1a h1b
                subst h1a
                subst q2
                by_cases hyz : y = z
                · rw [if_pos hyz] at h1b
                  subst h1b
                  have hkn : (kd != 1) = true := by simpa using hk1
                  have ck : w6.cell? ⟨a0, off + k * 36, none⟩ = some (.int .i64 kd) := by rw [← HKD.out]; exact cell_keep (HC0.out 0 _ rfl) HQ6.out.below
                  have hjc : (j : Int) < 4 := by omega
                  have HQN := HQ6
                  clear HQ6
                  go_wp2_with fail
                  go_loopw [4, 15] (fun v4 v15 wr => ∃ m : Nat, v4 = .bool false ∧ v15 = .int .i64 (m : Int) ∧ m ≤ 4 ∧ Hid (Q2 w [(c2, 3, sumsA q.l), (b, 9, nb4)] wr s (k + 1) q)) (fun _ v15 _ => 4 - (intOf v15).toNat)
                  case atStart => exact ⟨0, rfl, rfl, by omega, HQN⟩
                  case round =>
                    clear HQN ck
                    obtain ⟨m, rfl, rfl, hm, HQM⟩ := hrel
                    by_cases hm4 : m < 4
                    · have hm4' : (m : Int) < 4 := by omega
                      have HQD := hid (HQM.out.keep (Below.refl _ _).drew)
                      have HUS := hid (fun W (e : W = wr.drew) => (by rw [e]; exact HQD.out.use (nm4 m) (nm4_max m) : Calls Try.prog 29 #[.pointer (some ⟨s, 0, none⟩), .string (strB (nm4 m))] W fun e w' => e = .returned (.int .i64 (sumQ q.l (nm4 m))) ∧ W = w'))
                      have HC := hid (fun W (e : W = wr.drew) => (⟨by rw [e]; exact (HQD.out.blk (p := (b, 9, nb4)) (by simp)).cell m (nb4_at hm4), by rw [e]; exact (HQD.out.blk (p := (c2, 3, sumsA q.l)) (by simp)).cell m (sumsA_at _ hm4), hm4'⟩ : W.cell? ⟨b, m, none⟩ = some (.string (strB (nm4 m))) ∧ W.cell? ⟨c2, m, none⟩ = some (.int .i64 (sumQ q.l (nm4 m))) ∧ (m : Int) < 4))
                      generalize sumQ q.l (nm4 m) = sv at HUS HC
                      go_wp2_with fail
                      refine wp_region_invG 213 () (sm25Val s b c2 m sv) (fun _ _ W => Hid (W = wr.drew)) (by kernel_rfl) (by kernel_rfl) (by exact Nat.le_refl 213) ?_ ?_ ?_
                      · exact hid rfl
                      · intro i o f gh a W hi hf hdep hsame hcl hval hS
                        rcases i with _ | _ | _ | _ | _ | _ | _ | _ | _ | _ | _ | i
                        all_goals simp only [List.getElem?_cons_succ, List.getElem?_cons_zero, List.getElem?_nil, Option.some.injEq, reduceCtorEq] at hi
                        all_goals subst hi
                        · have E6 : a.tmps[6]? = some (.pointer (some ⟨s, 0, none⟩)) := (same_of hsame 6 (by rfl)).trans rfl
                          refine g_plain rfl ?_
                          exact does_value (w' := W) (v := .pointer (some ⟨s, 0, none⟩)) (by go_simp) ⟨(), .inr rfl, hS⟩
                        · have E8 : a.tmps[8]? = some (.slice (some ⟨b, 0, none⟩) 4 4) := (same_of hsame 8 (by rfl)).trans rfl
                          refine g_plain rfl ?_
                          exact does_value (w' := W) (v := .slice (some ⟨b, 0, none⟩) 4 4) (by go_simp) ⟨(), .inr rfl, hS⟩
                        · have E15 : a.tmps[15]? = some (.int .i64 (m : Int)) := (same_of hsame 15 (by rfl)).trans rfl
                          refine g_plain rfl ?_
                          exact does_value (w' := W) (v := .int .i64 (m : Int)) (by go_simp) ⟨(), .inr rfl, hS⟩
                        · have E158 := hval 1 _ 158 rfl rfl (dep_of hdep 1 (by rfl))
                          have E159 := hval 2 _ 159 rfl rfl (dep_of hdep 2 (by rfl))
                          unfold sm25Val at E158 E159
                          obtain ⟨cn, cs, hm3⟩ := HC.out W hS.out
                          refine g_plain rfl ?_
                          exact does_value (w' := W) (v := .pointer (some ⟨b, m, none⟩)) (by go_simp) ⟨(), .inr rfl, hS⟩
                        · have E160 := hval 3 _ 160 rfl rfl (dep_of hdep 3 (by rfl))
                          unfold sm25Val at E160
                          obtain ⟨cn, cs, hm3⟩ := HC.out W hS.out
                          refine g_plain rfl ?_
                          exact does_value (w' := W) (v := .string (strB (nm4 m))) (by go_simp) ⟨(), .inr rfl, hS⟩
                        · have E157 := hval 0 _ 157 rfl rfl (dep_of hdep 0 (by rfl))
                          have E161 := hval 4 _ 161 rfl rfl (dep_of hdep 4 (by rfl))
                          unfold sm25Val at E157 E161
                          refine g_plain rfl ?_
                          refine does_call 29 #[.pointer (some ⟨s, 0, none⟩), .string (strB (nm4 m))] (by go_simp) ((HUS.out W hS.out).mono ?_)
                          rintro _ W' ⟨rfl, rfl⟩
                          exact ⟨_, rfl, (), .inr rfl, hS⟩
                        · have E9 : a.tmps[9]? = some (.slice (some ⟨c2, 0, none⟩) 4 4) := (same_of hsame 9 (by rfl)).trans rfl
                          refine g_plain rfl ?_
                          exact does_value (w' := W) (v := .slice (some ⟨c2, 0, none⟩) 4 4) (by go_simp) ⟨(), .inr rfl, hS⟩
                        · have E15 : a.tmps[15]? = some (.int .i64 (m : Int)) := (same_of hsame 15 (by rfl)).trans rfl
                          refine g_plain rfl ?_
                          exact does_value (w' := W) (v := .int .i64 (m : Int)) (by go_simp) ⟨(), .inr rfl, hS⟩
                        · have E163 := hval 6 _ 163 rfl rfl (dep_of hdep 6 (by rfl))
                          have E164 := hval 7 _ 164 rfl rfl (dep_of hdep 7 (by rfl))
                          unfold sm25Val at E163 E164
                          obtain ⟨cn, cs, hm3⟩ := HC.out W hS.out
                          refine g_plain rfl ?_
                          exact does_value (w' := W) (v := .pointer (some ⟨c2, m, none⟩)) (by go_simp) ⟨(), .inr rfl, hS⟩
                        · have E165 := hval 8 _ 165 rfl rfl (dep_of hdep 8 (by rfl))
                          unfold sm25Val at E165
                          obtain ⟨cn, cs, hm3⟩ := HC.out W hS.out
                          refine g_plain rfl ?_
                          exact does_value (w' := W) (v := .int .i64 sv) (by go_simp) ⟨(), .inr rfl, hS⟩
                        · have E162 := hval 5 _ 162 rfl rfl (dep_of hdep 5 (by rfl))
                          have E166 := hval 9 _ 166 rfl rfl (dep_of hdep 9 (by rfl))
                          unfold sm25Val at E162 E166
                          refine g_plain rfl ?_
                          exact does_value (w' := W) (v := .bool false) (by go_simp) ⟨(), .inr rfl, hS⟩
                      · intro gh W hS
                        have hS := hS.out
                        subst hS
                        simp only [putAll, sm25Val, Nat.reduceAdd, Nat.zero_add, Act.put, List.setIfInBounds_toArray, List.set_cons_zero, List.set_cons_succ]
                        clear HC HUS HQM
                        go_wp2_with fail
                        go_roundw
                        case rel => exact ⟨m + 1, rfl, by go_num, by omega, HQD⟩
                        case measure => simp [intOf]; omega
                    · obtain rfl : m = 4 := by omega
                      rw [show ((4 : Nat) : Int) = 4 from rfl]
                      go_wp2_with fail
                      go_roundw
                      case rel => exact ⟨k + 1, rfl, by go_num, by omega, hid ⟨_, HQM.out, hql, by omega⟩⟩
                      case measure => simp [intOf]; omega
                · rw [if_neg hyz] at h1b
                  subst h1b
                  have hkn : (kd != 1) = true := by simpa using hk1
                  have ck : w6.cell? ⟨a0, off + k * 36, none⟩ = some (.int .i64 kd) := by rw [← HKD.out]; exact cell_keep (HC0.out 0 _ rfl) HQ6.out.below
                  have hjc : (j : Int) < 4 := by omega
                  have HQN := HQ6
                  clear HQ6
                  go_wp2_with fail
                  go_loopw [4, 15] (fun v4 v15 wr => ∃ m : Nat, v4 = .bool false ∧ v15 = .int .i64 (m : Int) ∧ m ≤ 4 ∧ Hid (Q2 w [(c2, 3, sumsA q.l), (b, 9, nb4)] wr s (k + 1) q)) (fun _ v15 _ => 4 - (intOf v15).toNat)
                  case atStart => exact ⟨0, rfl, rfl, by omega, HQN⟩
                  case round =>
                    clear HQN ck
                    obtain ⟨m, rfl, rfl, hm, HQM⟩ := hrel
                    by_cases hm4 : m < 4
                    · have hm4' : (m : Int) < 4 := by omega
                      have HQD := hid (HQM.out.keep (Below.refl _ _).drew)
                      have HUS := hid (fun W (e : W = wr.drew) => (by rw [e]; exact HQD.out.use (nm4 m) (nm4_max m) : Calls Try.prog 29 #[.pointer (some ⟨s, 0, none⟩), .string (strB (nm4 m))] W fun e w' => e = .returned (.int .i64 (sumQ q.l (nm4 m))) ∧ W = w'))
                      have HC := hid (fun W (e : W = wr.drew) => (⟨by rw [e]; exact (HQD.out.blk (p := (b, 9, nb4)) (by simp)).cell m (nb4_at hm4), by rw [e]; exact (HQD.out.blk (p := (c2, 3, sumsA q.l)) (by simp)).cell m (sumsA_at _ hm4), hm4'⟩ : W.cell? ⟨b, m, none⟩ = some (.string (strB (nm4 m))) ∧ W.cell? ⟨c2, m, none⟩ = some (.int .i64 (sumQ q.l (nm4 m))) ∧ (m : Int) < 4))
                      generalize sumQ q.l (nm4 m) = sv at HUS HC
                      go_wp2_with fail
                      refine wp_region_invG 213 () (sm25Val s b c2 m sv) (fun _ _ W => Hid (W = wr.drew)) (by kernel_rfl) (by kernel_rfl) (by exact Nat.le_refl 213) ?_ ?_ ?_
                      · exact hid rfl
                      · intro i o f gh a W hi hf hdep hsame hcl hval hS
                        rcases i with _ | _ | _ | _ | _ | _ | _ | _ | _ | _ | _ | i
                        all_goals simp only [List.getElem?_cons_succ, List.getElem?_cons_zero, List.getElem?_nil, Option.some.injEq, reduceCtorEq] at hi
                        all_goals subst hi
                        · have E6 : a.tmps[6]? = some (.pointer (some ⟨s, 0, none⟩)) := (same_of hsame 6 (by rfl)).trans rfl
                          refine g_plain rfl ?_
                          exact does_value (w' := W) (v := .pointer (some ⟨s, 0, none⟩)) (by go_simp) ⟨(), .inr rfl, hS⟩
                        · have E8 : a.tmps[8]? = some (.slice (some ⟨b, 0, none⟩) 4 4) := (same_of hsame 8 (by rfl)).trans rfl
                          refine g_plain rfl ?_
                          exact does_value (w' := W) (v := .slice (some ⟨b, 0, none⟩) 4 4) (by go_simp) ⟨(), .inr rfl, hS⟩
                        · have E15 : a.tmps[15]? = some (.int .i64 (m : Int)) := (same_of hsame 15 (by rfl)).trans rfl
                          refine g_plain rfl ?_
                          exact does_value (w' := W) (v := .int .i64 (m : Int)) (by go_simp) ⟨(), .inr rfl, hS⟩
                        · have E158 := hval 1 _ 158 rfl rfl (dep_of hdep 1 (by rfl))
                          have E159 := hval 2 _ 159 rfl rfl (dep_of hdep 2 (by rfl))
                          unfold sm25Val at E158 E159
                          obtain ⟨cn, cs, hm3⟩ := HC.out W hS.out
                          refine g_plain rfl ?_
                          exact does_value (w' := W) (v := .pointer (some ⟨b, m, none⟩)) (by go_simp) ⟨(), .inr rfl, hS⟩
                        · have E160 := hval 3 _ 160 rfl rfl (dep_of hdep 3 (by rfl))
                          unfold sm25Val at E160
                          obtain ⟨cn, cs, hm3⟩ := HC.out W hS.out
                          refine g_plain rfl ?_
                          exact does_value (w' := W) (v := .string (strB (nm4 m))) (by go_simp) ⟨(), .inr rfl, hS⟩
                        · have E157 := hval 0 _ 157 rfl rfl (dep_of hdep 0 (by rfl))
                          have E161 := hval 4 _ 161 rfl rfl (dep_of hdep 4 (by rfl))
                          unfold sm25Val at E157 E161
                          refine g_plain rfl ?_
                          refine does_call 29 #[.pointer (some ⟨s, 0, none⟩), .string (strB (nm4 m))] (by go_simp) ((HUS.out W hS.out).mono ?_)
                          rintro _ W' ⟨rfl, rfl⟩
                          exact ⟨_, rfl, (), .inr rfl, hS⟩
                        · have E9 : a.tmps[9]? = some (.slice (some ⟨c2, 0, none⟩) 4 4) := (same_of hsame 9 (by rfl)).trans rfl
                          refine g_plain rfl ?_
                          exact does_value (w' := W) (v := .slice (some ⟨c2, 0, none⟩) 4 4) (by go_simp) ⟨(), .inr rfl, hS⟩
                        · have E15 : a.tmps[15]? = some (.int .i64 (m : Int)) := (same_of hsame 15 (by rfl)).trans rfl
                          refine g_plain rfl ?_
                          exact does_value (w' := W) (v := .int .i64 (m : Int)) (by go_simp) ⟨(), .inr rfl, hS⟩
                        · have E163 := hval 6 _ 163 rfl rfl (dep_of hdep 6 (by rfl))
                          have E164 := hval 7 _ 164 rfl rfl (dep_of hdep 7 (by rfl))
                          unfold sm25Val at E163 E164
                          obtain ⟨cn, cs, hm3⟩ := HC.out W hS.out
                          refine g_plain rfl ?_
                          exact does_value (w' := W) (v := .pointer (some ⟨c2, m, none⟩)) (by go_simp) ⟨(), .inr rfl, hS⟩
                        · have E165 := hval 8 _ 165 rfl rfl (dep_of hdep 8 (by rfl))
                          unfold sm25Val at E165
                          obtain ⟨cn, cs, hm3⟩ := HC.out W hS.out
                          refine g_plain rfl ?_
                          exact does_value (w' := W) (v := .int .i64 sv) (by go_simp) ⟨(), .inr rfl, hS⟩
                        · have E162 := hval 5 _ 162 rfl rfl (dep_of hdep 5 (by rfl))
                          have E166 := hval 9 _ 166 rfl rfl (dep_of hdep 9 (by rfl))
                          unfold sm25Val at E162 E166
                          refine g_plain rfl ?_
                          exact does_value (w' := W) (v := .bool false) (by go_simp) ⟨(), .inr rfl, hS⟩
                      · intro gh W hS
                        have hS := hS.out
                        subst hS
                        simp only [putAll, sm25Val, Nat.reduceAdd, Nat.zero_add, Act.put, List.setIfInBounds_toArray, List.set_cons_zero, List.set_cons_succ]
                        clear HC HUS HQM
                        go_wp2_with fail
                        go_roundw
                        case rel => exact ⟨m + 1, rfl, by go_num, by omega, HQD⟩
                        case measure => simp [intOf]; omega
                    · obtain rfl : m = 4 := by omega
                      rw [show ((4 : Nat) : Int) = 4 from rfl]
                      go_wp2_with fail
                      go_roundw
                      case rel => exact ⟨k + 1, rfl, by go_num, by omega, hid ⟨_, HQM.out, hql, by omega⟩⟩
                      case measure => simp [intOf]; omega
              · rw [HR2.out.2.1] at h1
                rw [HR2.out.2.2] at h2
                injection h1 with h1a h1b
                subst h1a
                subst q2
                subst h1b
                have hkn : (kd != 1) = true := by simpa using hk1
                have ck : w6.cell? ⟨a0, off + k * 36, none⟩ = some (.int .i64 kd) := by rw [← HKD.out]; exact cell_keep (HC0.out 0 _ rfl) HQ6.out.below
                have hjc : (j : Int) < 4 := by omega
                have hlim : ¬ lim < sumQ q.l (nm4 j) + z := by have := HR2.out.1; rw [hal1, hql] at this; simpa using this
                have hbs := HOQ.out.sum (nm4 j)
                obtain ⟨S, hS⟩ : ∃ S, sumQ q.l (nm4 j) = S := ⟨_, rfl⟩
                rw [hS] at hbs hlim
                have d6 : w6.cell? ⟨c2, j, none⟩ = some (.int .i64 S) := by rw [← hS]; exact (HQ6.out.blk (p := (c2, 3, sumsA q.l)) (by simp)).cell j (sumsA_at _ hj4)
                have f6 := (HQ6.out.blk (p := (c2, 3, sumsA q.l)) (by simp)).frozen j
                have HQ7 := hid (HQ6.out.set HBC.out.1 (fun p hp => by simp at hp; rw [hp]; exact fun e => HBC.out.2 e.symm) j (.int .i64 (S + z)))
                rw [← hS, ← sumsA_app q.l hj4 x z, hS] at HQ7
                have ck7 : (w6.setCell ⟨c2, j, none⟩ (.int .i64 (S + z))).cell? ⟨a0, off + k * 36, none⟩ = some (.int .i64 kd) := by rw [← HKD.out]; exact cell_keep (HC0.out 0 _ rfl) HQ7.out.below
                have d7 : (w6.setCell ⟨c2, j, none⟩ (.int .i64 (S + z))).cell? ⟨c2, j, none⟩ = some (.int .i64 (S + z)) := by
                  have := (HQ7.out.blk (p := (c2, 3, sumsA (q.l ++ [((nm4 j, x), z)]))) (by simp)).cell j (sumsA_at _ hj4)
                  rw [sumQ_app q.l (nm4 j, x) z, hS] at this
                  exact this
                generalize hw7 : w6.setCell ⟨c2, j, none⟩ (.int .i64 (S + z)) = w7 at HQ7 ck7 d7
                have HQN := HQ7
                clear HQ6 HQ7 hS
                go_wp2_with fail
                clear hw7 d6 f6 d7 ck
                go_loopw [4, 15] (fun v4 v15 wr => ∃ m : Nat, v4 = .bool false ∧ v15 = .int .i64 (m : Int) ∧ m ≤ 4 ∧ Hid (Q2 w [(c2, 3, sumsA (q.l ++ [((nm4 j, x), z)])), (b, 9, nb4)] wr s (k + 1) { q with l := q.l ++ [((nm4 j, x), z)] })) (fun _ v15 _ => 4 - (intOf v15).toNat)
                case atStart => exact ⟨0, rfl, rfl, by omega, HQN⟩
                case round =>
                  clear HQN ck7 hbs
                  obtain ⟨m, rfl, rfl, hm, HQM⟩ := hrel
                  by_cases hm4 : m < 4
                  · have hm4' : (m : Int) < 4 := by omega
                    have HQD := hid (HQM.out.keep (Below.refl _ _).drew)
                    have HUS := hid (fun W (e : W = wr.drew) => (by rw [e]; exact HQD.out.use (nm4 m) (nm4_max m) : Calls Try.prog 29 #[.pointer (some ⟨s, 0, none⟩), .string (strB (nm4 m))] W fun e w' => e = .returned (.int .i64 (sumQ (q.l ++ [((nm4 j, x), z)]) (nm4 m))) ∧ W = w'))
                    have HC := hid (fun W (e : W = wr.drew) => (⟨by rw [e]; exact (HQD.out.blk (p := (b, 9, nb4)) (by simp)).cell m (nb4_at hm4), by rw [e]; exact (HQD.out.blk (p := (c2, 3, sumsA (q.l ++ [((nm4 j, x), z)]))) (by simp)).cell m (sumsA_at _ hm4), hm4'⟩ : W.cell? ⟨b, m, none⟩ = some (.string (strB (nm4 m))) ∧ W.cell? ⟨c2, m, none⟩ = some (.int .i64 (sumQ (q.l ++ [((nm4 j, x), z)]) (nm4 m))) ∧ (m : Int) < 4))
                    generalize sumQ (q.l ++ [((nm4 j, x), z)]) (nm4 m) = sv at HUS HC
                    go_wp2_with fail
                    refine wp_region_invG 213 () (sm25Val s b c2 m sv) (fun _ _ W => Hid (W = wr.drew)) (by kernel_rfl) (by kernel_rfl) (by exact Nat.le_refl 213) ?_ ?_ ?_
                    · exact hid rfl
                    · intro i o f gh a W hi hf hdep hsame hcl hval hS
                      rcases i with _ | _ | _ | _ | _ | _ | _ | _ | _ | _ | _ | i
                      all_goals simp only [List.getElem?_cons_succ, List.getElem?_cons_zero, List.getElem?_nil, Option.some.injEq, reduceCtorEq] at hi
                      all_goals subst hi
                      · have E6 : a.tmps[6]? = some (.pointer (some ⟨s, 0, none⟩)) := (same_of hsame 6 (by rfl)).trans rfl
                        refine g_plain rfl ?_
                        exact does_value (w' := W) (v := .pointer (some ⟨s, 0, none⟩)) (by go_simp) ⟨(), .inr rfl, hS⟩
                      · have E8 : a.tmps[8]? = some (.slice (some ⟨b, 0, none⟩) 4 4) := (same_of hsame 8 (by rfl)).trans rfl
                        refine g_plain rfl ?_
                        exact does_value (w' := W) (v := .slice (some ⟨b, 0, none⟩) 4 4) (by go_simp) ⟨(), .inr rfl, hS⟩
                      · have E15 : a.tmps[15]? = some (.int .i64 (m : Int)) := (same_of hsame 15 (by rfl)).trans rfl
                        refine g_plain rfl ?_
                        exact does_value (w' := W) (v := .int .i64 (m : Int)) (by go_simp) ⟨(), .inr rfl, hS⟩
                      · have E158 := hval 1 _ 158 rfl rfl (dep_of hdep 1 (by rfl))
                        have E159 := hval 2 _ 159 rfl rfl (dep_of hdep 2 (by rfl))
                        unfold sm25Val at E158 E159
                        obtain ⟨cn, cs, hm3⟩ := HC.out W hS.out
                        refine g_plain rfl ?_
                        exact does_value (w' := W) (v := .pointer (some ⟨b, m, none⟩)) (by go_simp) ⟨(), .inr rfl, hS⟩
                      · have E160 := hval 3 _ 160 rfl rfl (dep_of hdep 3 (by rfl))
                        unfold sm25Val at E160
                        obtain ⟨cn, cs, hm3⟩ := HC.out W hS.out
                        refine g_plain rfl ?_
                        exact does_value (w' := W) (v := .string (strB (nm4 m))) (by go_simp) ⟨(), .inr rfl, hS⟩
                      · have E157 := hval 0 _ 157 rfl rfl (dep_of hdep 0 (by rfl))
                        have E161 := hval 4 _ 161 rfl rfl (dep_of hdep 4 (by rfl))
                        unfold sm25Val at E157 E161
                        refine g_plain rfl ?_
                        refine does_call 29 #[.pointer (some ⟨s, 0, none⟩), .string (strB (nm4 m))] (by go_simp) ((HUS.out W hS.out).mono ?_)
                        rintro _ W' ⟨rfl, rfl⟩
                        exact ⟨_, rfl, (), .inr rfl, hS⟩
                      · have E9 : a.tmps[9]? = some (.slice (some ⟨c2, 0, none⟩) 4 4) := (same_of hsame 9 (by rfl)).trans rfl
                        refine g_plain rfl ?_
                        exact does_value (w' := W) (v := .slice (some ⟨c2, 0, none⟩) 4 4) (by go_simp) ⟨(), .inr rfl, hS⟩
                      · have E15 : a.tmps[15]? = some (.int .i64 (m : Int)) := (same_of hsame 15 (by rfl)).trans rfl
                        refine g_plain rfl ?_
                        exact does_value (w' := W) (v := .int .i64 (m : Int)) (by go_simp) ⟨(), .inr rfl, hS⟩
                      · have E163 := hval 6 _ 163 rfl rfl (dep_of hdep 6 (by rfl))
                        have E164 := hval 7 _ 164 rfl rfl (dep_of hdep 7 (by rfl))
                        unfold sm25Val at E163 E164
                        obtain ⟨cn, cs, hm3⟩ := HC.out W hS.out
                        refine g_plain rfl ?_
                        exact does_value (w' := W) (v := .pointer (some ⟨c2, m, none⟩)) (by go_simp) ⟨(), .inr rfl, hS⟩
                      · have E165 := hval 8 _ 165 rfl rfl (dep_of hdep 8 (by rfl))
                        unfold sm25Val at E165
                        obtain ⟨cn, cs, hm3⟩ := HC.out W hS.out
                        refine g_plain rfl ?_
                        exact does_value (w' := W) (v := .int .i64 sv) (by go_simp) ⟨(), .inr rfl, hS⟩
                      · have E162 := hval 5 _ 162 rfl rfl (dep_of hdep 5 (by rfl))
                        have E166 := hval 9 _ 166 rfl rfl (dep_of hdep 9 (by rfl))
                        unfold sm25Val at E162 E166
                        refine g_plain rfl ?_
                        exact does_value (w' := W) (v := .bool false) (by go_simp) ⟨(), .inr rfl, hS⟩
                    · intro gh W hS
                      have hS := hS.out
                      subst hS
                      simp only [putAll, sm25Val, Nat.reduceAdd, Nat.zero_add, Act.put, List.setIfInBounds_toArray, List.set_cons_zero, List.set_cons_succ]
                      clear HC HUS HQM
                      go_wp2_with fail
                      go_roundw
                      case rel => exact ⟨m + 1, rfl, by go_num, by omega, HQD⟩
                      case measure => simp [intOf]; omega
                  · obtain rfl : m = 4 := by omega
                    rw [show ((4 : Nat) : Int) = 4 from rfl]
                    go_wp2_with fail
                    go_roundw
                    case rel => exact ⟨k + 1, rfl, by go_num, by omega, hid ⟨_, HQM.out, hql, by simp; omega⟩⟩
                    case measure => simp [intOf]; omega
              · rw [HR2.out.2.1] at h1
                rw [HR2.out.2.2] at h2
                injection h1 with h1a h1b
                subst h1a
                subst q2
                subst h1b
                have hkn : (kd != 1) = true := by simpa using hk1
                have ck : w6.cell? ⟨a0, off + k * 36, none⟩ = some (.int .i64 kd) := by rw [← HKD.out]; exact cell_keep (HC0.out 0 _ rfl) HQ6.out.below
                have hjc : (j : Int) < 4 := by omega
                have hbs := HOQ.out.sum (nm4 j)
                obtain ⟨S, hS⟩ : ∃ S, sumQ q.l (nm4 j) = S := ⟨_, rfl⟩
                have hlim : lim < S + z := by have := HR2.out.1; rw [hf, hS, hql] at this; simpa using this
                rw [hS] at hbs
                have d6 : w6.cell? ⟨c2, j, none⟩ = some (.int .i64 S) := by rw [← hS]; exact (HQ6.out.blk (p := (c2, 3, sumsA q.l)) (by simp)).cell j (sumsA_at _ hj4)
                have HQN := HQ6
                clear HQ6 hS
                go_wp2_with fail
                clear d6
                go_loopw [4, 15] (fun v4 v15 wr => ∃ m : Nat, v4 = .bool false ∧ v15 = .int .i64 (m : Int) ∧ m ≤ 4 ∧ Hid (Q2 w [(c2, 3, sumsA q.l), (b, 9, nb4)] wr s (k + 1) q)) (fun _ v15 _ => 4 - (intOf v15).toNat)
                case atStart => exact ⟨0, rfl, rfl, by omega, HQN⟩
                case round =>
                  clear HQN ck hbs
                  obtain ⟨m, rfl, rfl, hm, HQM⟩ := hrel
                  by_cases hm4 : m < 4
                  · have hm4' : (m : Int) < 4 := by omega
                    have HQD := hid (HQM.out.keep (Below.refl _ _).drew)
                    have HUS := hid (fun W (e : W = wr.drew) => (by rw [e]; exact HQD.out.use (nm4 m) (nm4_max m) : Calls Try.prog 29 #[.pointer (some ⟨s, 0, none⟩), .string (strB (nm4 m))] W fun e w' => e = .returned (.int .i64 (sumQ q.l (nm4 m))) ∧ W = w'))
                    have HC := hid (fun W (e : W = wr.drew) => (⟨by rw [e]; exact (HQD.out.blk (p := (b, 9, nb4)) (by simp)).cell m (nb4_at hm4), by rw [e]; exact (HQD.out.blk (p := (c2, 3, sumsA q.l)) (by simp)).cell m (sumsA_at _ hm4), hm4'⟩ : W.cell? ⟨b, m, none⟩ = some (.string (strB (nm4 m))) ∧ W.cell? ⟨c2, m, none⟩ = some (.int .i64 (sumQ q.l (nm4 m))) ∧ (m : Int) < 4))
                    generalize sumQ q.l (nm4 m) = sv at HUS HC
                    go_wp2_with fail
                    refine wp_region_invG 213 () (sm25Val s b c2 m sv) (fun _ _ W => Hid (W = wr.drew)) (by kernel_rfl) (by kernel_rfl) (by exact Nat.le_refl 213) ?_ ?_ ?_
                    · exact hid rfl
                    · intro i o f gh a W hi hf hdep hsame hcl hval hS
                      rcases i with _ | _ | _ | _ | _ | _ | _ | _ | _ | _ | _ | i
                      all_goals simp only [List.getElem?_cons_succ, List.getElem?_cons_zero, List.getElem?_nil, Option.some.injEq, reduceCtorEq] at hi
                      all_goals subst hi
                      · have E6 : a.tmps[6]? = some (.pointer (some ⟨s, 0, none⟩)) := (same_of hsame 6 (by rfl)).trans rfl
                        refine g_plain rfl ?_
                        exact does_value (w' := W) (v := .pointer (some ⟨s, 0, none⟩)) (by go_simp) ⟨(), .inr rfl, hS⟩
                      · have E8 : a.tmps[8]? = some (.slice (some ⟨b, 0, none⟩) 4 4) := (same_of hsame 8 (by rfl)).trans rfl
                        refine g_plain rfl ?_
                        exact does_value (w' := W) (v := .slice (some ⟨b, 0, none⟩) 4 4) (by go_simp) ⟨(), .inr rfl, hS⟩
                      · have E15 : a.tmps[15]? = some (.int .i64 (m : Int)) := (same_of hsame 15 (by rfl)).trans rfl
                        refine g_plain rfl ?_
                        exact does_value (w' := W) (v := .int .i64 (m : Int)) (by go_simp) ⟨(), .inr rfl, hS⟩
                      · have E158 := hval 1 _ 158 rfl rfl (dep_of hdep 1 (by rfl))
                        have E159 := hval 2 _ 159 rfl rfl (dep_of hdep 2 (by rfl))
                        unfold sm25Val at E158 E159
                        obtain ⟨cn, cs, hm3⟩ := HC.out W hS.out
                        refine g_plain rfl ?_
                        exact does_value (w' := W) (v := .pointer (some ⟨b, m, none⟩)) (by go_simp) ⟨(), .inr rfl, hS⟩
                      · have E160 := hval 3 _ 160 rfl rfl (dep_of hdep 3 (by rfl))
                        unfold sm25Val at E160
                        obtain ⟨cn, cs, hm3⟩ := HC.out W hS.out
                        refine g_plain rfl ?_
                        exact does_value (w' := W) (v := .string (strB (nm4 m))) (by go_simp) ⟨(), .inr rfl, hS⟩
                      · have E157 := hval 0 _ 157 rfl rfl (dep_of hdep 0 (by rfl))
                        have E161 := hval 4 _ 161 rfl rfl (dep_of hdep 4 (by rfl))
                        unfold sm25Val at E157 E161
                        refine g_plain rfl ?_
                        refine does_call 29 #[.pointer (some ⟨s, 0, none⟩), .string (strB (nm4 m))] (by go_simp) ((HUS.out W hS.out).mono ?_)
                        rintro _ W' ⟨rfl, rfl⟩
                        exact ⟨_, rfl, (), .inr rfl, hS⟩
                      · have E9 : a.tmps[9]? = some (.slice (some ⟨c2, 0, none⟩) 4 4) := (same_of hsame 9 (by rfl)).trans rfl
                        refine g_plain rfl ?_
                        exact does_value (w' := W) (v := .slice (some ⟨c2, 0, none⟩) 4 4) (by go_simp) ⟨(), .inr rfl, hS⟩
                      · have E15 : a.tmps[15]? = some (.int .i64 (m : Int)) := (same_of hsame 15 (by rfl)).trans rfl
                        refine g_plain rfl ?_
                        exact does_value (w' := W) (v := .int .i64 (m : Int)) (by go_simp) ⟨(), .inr rfl, hS⟩
                      · have E163 := hval 6 _ 163 rfl rfl (dep_of hdep 6 (by rfl))
                        have E164 := hval 7 _ 164 rfl rfl (dep_of hdep 7 (by rfl))
                        unfold sm25Val at E163 E164
                        obtain ⟨cn, cs, hm3⟩ := HC.out W hS.out
                        refine g_plain rfl ?_
                        exact does_value (w' := W) (v := .pointer (some ⟨c2, m, none⟩)) (by go_simp) ⟨(), .inr rfl, hS⟩
                      · have E165 := hval 8 _ 165 rfl rfl (dep_of hdep 8 (by rfl))
                        unfold sm25Val at E165
                        obtain ⟨cn, cs, hm3⟩ := HC.out W hS.out
                        refine g_plain rfl ?_
                        exact does_value (w' := W) (v := .int .i64 sv) (by go_simp) ⟨(), .inr rfl, hS⟩
                      · have E162 := hval 5 _ 162 rfl rfl (dep_of hdep 5 (by rfl))
                        have E166 := hval 9 _ 166 rfl rfl (dep_of hdep 9 (by rfl))
                        unfold sm25Val at E162 E166
                        refine g_plain rfl ?_
                        exact does_value (w' := W) (v := .bool false) (by go_simp) ⟨(), .inr rfl, hS⟩
                    · intro gh W hS
                      have hS := hS.out
                      subst hS
                      simp only [putAll, sm25Val, Nat.reduceAdd, Nat.zero_add, Act.put, List.setIfInBounds_toArray, List.set_cons_zero, List.set_cons_succ]
                      clear HC HUS HQM
                      go_wp2_with fail
                      go_roundw
                      case rel => exact ⟨m + 1, rfl, by go_num, by omega, HQD⟩
                      case measure => simp [intOf]; omega
                  · obtain rfl : m = 4 := by omega
                    rw [show ((4 : Nat) : Int) = 4 from rfl]
                    go_wp2_with fail
                    go_roundw
                    case rel => exact ⟨k + 1, rfl, by go_num, by omega, hid ⟨_, HQM.out, hql, by omega⟩⟩
                    case measure => simp [intOf]; omega

      · 
        obtain rfl : k = n := by omega
        obtain ⟨q, hq, hql, hlen⟩ := HW.out
        have HQ := hid hq
        clear HW hq
        go_wp2_with fail
        go_loopw [16, 17, 18] (fun v16 v17 v18 wr => ∃ m : Nat, v16 = .int .i64 (m : Int) ∧ m ≤ 4 ∧ Hid (Q2 w [(c2, 3, sumsA q.l), (b, 9, nb4)] wr s k q)) (fun v16 _ _ _ => 4 - (intOf v16).toNat)
        case atStart => exact ⟨0, rfl, by omega, HQ⟩
        case round =>
          clear HQ
          obtain ⟨m, rfl, hm, HQM⟩ := hrel
          by_cases hm4 : m < 4
          · have hm4' : (m : Int) < 4 := by omega
            have hcn : wr.cell? ⟨b, m, none⟩ = some (.string (strB (nm4 m))) := (HQM.out.blk (p := (b, 9, nb4)) (by simp)).cell m (nb4_at hm4)
            have HID := hid ((HQM.out.q1.ids (by omega) (nm4 m) (nm4_max m)).mono fun e w' h => ids_row h.1)
            go_wp2_with fail
            refine HID.out.mono ?_
            rintro _ w8 ⟨A3, ci, kk, ids, rfl, hir, hsort, hmem, h32, hk5, hb8⟩
            have HQ8 := hid (HQM.out.keep hb8)
            have HI8 := hid hir
            have HPW := hid hsort; have HME := hid hmem; have H32 := hid h32
            clear hir hsort hmem h32 hb8 HID HQM hcn
            go_wp2_with fail
            go_loopw [18] (fun v18 wr => ∃ i : Nat, v18 = .int .i64 (i : Int) ∧ i ≤ kk ∧ Hid (Q2 w [(c2, 3, sumsA q.l), (b, 9, nb4)] wr s k q) ∧ Hid (IRow wr A3 kk ids)) (fun v18 _ => kk - (intOf v18).toNat)
            case atStart => exact ⟨0, rfl, Nat.zero_le _, HQ8, HI8⟩
            case round =>
              clear HQ8 HI8
              obtain ⟨i, rfl, hi, HQY, HIR⟩ := hrel
              by_cases hlt2 : i < kk
              · have hlt2' : (i : Int) < (kk : Int) := by omega
                obtain ⟨hil, hi1⟩ := HIR.out
                obtain ⟨gi, rfl, hga⟩ := hi1 (by omega)
                obtain ⟨x, hx⟩ : ∃ x, ids[i]? = some x := ⟨_, List.getElem?_eq_getElem (by omega)⟩
                have hx32 := (hga i x hx).1
                have HLX := hid (fun W (hW : Below wr.heap.size wr W) => (by
                  obtain ⟨_, h1⟩ := HIR.out.keep hW
                  obtain ⟨g', e, h2⟩ := h1 (by omega)
                  injection e with e
                  injection e with e
                  subst e
                  exact (h2 i x hx).2.1 : (loadVar 32 ⟨gi, i * 32, none⟩).run Try.prog W = .ok (.agg (bcells x)) W))
                have hin : (szQ q.l (nm4 m, x)).isSome = true := (HME.out x hx32).1 (List.mem_of_getElem? hx)
                have HHS := hid (fun W (hW : Below wr.heap.size wr W) => (by
                  have h := (HQY.out.keep hW).has (nm4 m, x) ⟨nm4_max m, hx32⟩
                  rw [hin] at h
                  exact h : Calls Try.prog 21 #[.pointer (some ⟨s, 0, none⟩), .string (strB (nm4 m)), .agg (bcells x)] W fun e w' => e = .returned (.bool true) ∧ Below W.heap.size W w'))
                have HC := hid (fun W (hW : Below wr.heap.size wr W) => (⟨((HQY.out.keep hW).blk (p := (b, 9, nb4)) (by simp)).cell m (nb4_at hm4), hm4', hlt2'⟩ : W.cell? ⟨b, m, none⟩ = some (.string (strB (nm4 m))) ∧ (m : Int) < 4 ∧ (i : Int) < (kk : Int)))
                by_cases hi0 : i = 0
                · have HI0 := hid (show ¬ (0 : Int) < (i : Int) from by omega)
                  clear hga hi1 hil hx hin hi0
                  go_wp2_with fail
                  refine wp_region_invG 213 () (sm34aVal s b m gi kk ci i x) (fun _ _ W => Below wr.heap.size wr W) (by kernel_rfl) (by kernel_rfl) (by exact Nat.le_refl 213) ?_ ?_ ?_
                  · exact (Below.refl _ _).drew
                  · intro i o f gh a W hi hf hdep hsame hcl hval hS
                    rcases i with _ | _ | _ | _ | _ | _ | _ | _ | _ | _ | _ | _ | _ | _ | _ | _ | _ | _ | _ | _ | _ | _ | _ | _ | _ | _ | _ | _ | i
                    all_goals simp only [List.getElem?_cons_succ, List.getElem?_cons_zero, List.getElem?_nil, Option.some.injEq, reduceCtorEq] at hi
                    all_goals subst hi
                    · have E6 : a.tmps[6]? = some (.pointer (some ⟨s, 0, none⟩)) := (same_of hsame 6 (by rfl)).trans rfl
                      refine g_plain rfl ?_
                      exact does_value (w' := W) (v := .pointer (some ⟨s, 0, none⟩)) (by go_simp) ⟨(), .inr rfl, hS⟩
                    · have E8 : a.tmps[8]? = some (.slice (some ⟨b, 0, none⟩) 4 4) := (same_of hsame 8 (by rfl)).trans rfl
                      refine g_plain rfl ?_
                      exact does_value (w' := W) (v := .slice (some ⟨b, 0, none⟩) 4 4) (by go_simp) ⟨(), .inr rfl, hS⟩
                    · have E16 : a.tmps[16]? = some (.int .i64 (m : Int)) := (same_of hsame 16 (by rfl)).trans rfl
                      refine g_plain rfl ?_
                      exact does_value (w' := W) (v := .int .i64 (m : Int)) (by go_simp) ⟨(), .inr rfl, hS⟩
                    · have E185 := hval 1 _ 185 rfl rfl (dep_of hdep 1 (by rfl))
                      have E186 := hval 2 _ 186 rfl rfl (dep_of hdep 2 (by rfl))
                      unfold sm34aVal at E185 E186
                      obtain ⟨cn, hm3, hi3⟩ := HC.out W hS
                      refine g_plain rfl ?_
                      exact does_value (w' := W) (v := .pointer (some ⟨b, m, none⟩)) (by go_simp) ⟨(), .inr rfl, hS⟩
                    · have E187 := hval 3 _ 187 rfl rfl (dep_of hdep 3 (by rfl))
                      unfold sm34aVal at E187
                      obtain ⟨cn, hm3, hi3⟩ := HC.out W hS
                      refine g_plain rfl ?_
                      exact does_value (w' := W) (v := .string (strB (nm4 m))) (by go_simp) ⟨(), .inr rfl, hS⟩
                    · have E17 : a.tmps[17]? = some (.slice (some ⟨gi, 0, none⟩) kk ci) := (same_of hsame 17 (by rfl)).trans rfl
                      refine g_plain rfl ?_
                      exact does_value (w' := W) (v := .slice (some ⟨gi, 0, none⟩) kk ci) (by go_simp) ⟨(), .inr rfl, hS⟩
                    · have E18 : a.tmps[18]? = some (.int .i64 (i : Int)) := (same_of hsame 18 (by rfl)).trans rfl
                      refine g_plain rfl ?_
                      exact does_value (w' := W) (v := .int .i64 (i : Int)) (by go_simp) ⟨(), .inr rfl, hS⟩
                    · have E189 := hval 5 _ 189 rfl rfl (dep_of hdep 5 (by rfl))
                      have E190 := hval 6 _ 190 rfl rfl (dep_of hdep 6 (by rfl))
                      unfold sm34aVal at E189 E190
                      obtain ⟨cn, hm3, hi3⟩ := HC.out W hS
                      refine g_plain rfl ?_
                      exact does_value (w' := W) (v := .pointer (some ⟨gi, i * 32, none⟩)) (by go_simp) ⟨(), .inr rfl, hS⟩
                    · have E191 := hval 7 _ 191 rfl rfl (dep_of hdep 7 (by rfl))
                      unfold sm34aVal at E191
                      refine g_plain rfl ?_
                      exact does_load_run 32 _ rfl ⟨gi, i * 32, none⟩ _ (by rw [eval_getD, E191]; rfl) (HLX.out W hS) ⟨(), .inr rfl, hS⟩
                    · have E184 := hval 0 _ 184 rfl rfl (dep_of hdep 0 (by rfl))
                      have E188 := hval 4 _ 188 rfl rfl (dep_of hdep 4 (by rfl))
                      have E192 := hval 8 _ 192 rfl rfl (dep_of hdep 8 (by rfl))
                      unfold sm34aVal at E184 E188 E192
                      refine g_plain rfl ?_
                      refine does_call 21 #[.pointer (some ⟨s, 0, none⟩), .string (strB (nm4 m)), .agg (bcells x)] (by go_simp) ((HHS.out W hS).mono ?_)
                      rintro _ W' ⟨rfl, hb⟩
                      exact ⟨_, rfl, (), .inr rfl, hS.trans (hb.mono hS.size)⟩
                    · have E193 := hval 9 _ 193 rfl rfl (dep_of hdep 9 (by rfl))
                      unfold sm34aVal at E193
                      refine g_plain rfl ?_
                      exact does_value (w' := W) (v := .bool false) (by go_simp) ⟨(), .inr rfl, hS⟩
                    · have E194 := hval 10 _ 194 rfl rfl (dep_of hdep 10 (by rfl))
                      unfold sm34aVal at E194
                      refine g_plain rfl ?_
                      exact does_value (w' := W) (v := .bool false) (by go_simp) ⟨(), .inr rfl, hS⟩
                    · have EG := hval 11 _ 195 rfl rfl (dep_of hdep 11 (by rfl))
                      have E18 : a.tmps[18]? = some (.int .i64 (i : Int)) := (same_of hsame 18 (by rfl)).trans rfl
                      unfold sm34aVal at EG
                      refine g_want rfl rfl rfl EG ?_
                      exact does_value (w' := W) (v := .int .i64 (i : Int)) (by go_simp) ⟨(), .inr rfl, hS⟩
                    · have EG := hval 11 _ 195 rfl rfl (dep_of hdep 11 (by rfl))
                      have E196 := hval 12 _ 196 rfl rfl (dep_of hdep 12 (by rfl))
                      unfold sm34aVal at EG E196
                      have hi0 := HI0.out
                      have hi0n : i = 0 := by omega
                      refine g_want rfl rfl rfl EG ?_
                      exact does_value (w' := W) (v := .bool false) (by go_simp) ⟨(), .inr rfl, hS⟩
                    · have EG := hval 11 _ 195 rfl rfl (dep_of hdep 11 (by rfl))
                      have E197 := hval 13 _ 197 rfl rfl (dep_of hdep 13 (by rfl))
                      unfold sm34aVal at EG E197
                      refine g_want rfl rfl rfl EG ?_
                      exact does_value (w' := W) (v := .bool false) (by go_simp) ⟨(), .inr rfl, hS⟩
                    · have EG := hval 14 _ 198 rfl rfl (dep_of hdep 14 (by rfl))
                      unfold sm34aVal at EG
                      exact g_skip rfl rfl rfl EG rfl ⟨(), .inr rfl, hS⟩
                    · have EG := hval 14 _ 198 rfl rfl (dep_of hdep 14 (by rfl))
                      unfold sm34aVal at EG
                      exact g_skip rfl rfl rfl EG rfl ⟨(), .inr rfl, hS⟩
                    · have EG := hval 14 _ 198 rfl rfl (dep_of hdep 14 (by rfl))
                      unfold sm34aVal at EG
                      exact g_skip rfl rfl rfl EG rfl ⟨(), .inr rfl, hS⟩
                    · have EG := hval 14 _ 198 rfl rfl (dep_of hdep 14 (by rfl))
                      unfold sm34aVal at EG
                      exact g_skip rfl rfl rfl EG rfl ⟨(), .inr rfl, hS⟩
                    · have EG := hval 14 _ 198 rfl rfl (dep_of hdep 14 (by rfl))
                      unfold sm34aVal at EG
                      exact g_skip rfl rfl rfl EG rfl ⟨(), .inr rfl, hS⟩
                    · have EG := hval 14 _ 198 rfl rfl (dep_of hdep 14 (by rfl))
                      unfold sm34aVal at EG
                      exact g_skip rfl rfl rfl EG rfl ⟨(), .inr rfl, hS⟩
                    · have EG := hval 14 _ 198 rfl rfl (dep_of hdep 14 (by rfl))
                      unfold sm34aVal at EG
                      exact g_skip rfl rfl rfl EG rfl ⟨(), .inr rfl, hS⟩
                    · have EG := hval 14 _ 198 rfl rfl (dep_of hdep 14 (by rfl))
                      unfold sm34aVal at EG
                      exact g_skip rfl rfl rfl EG rfl ⟨(), .inr rfl, hS⟩
                    · have EG := hval 14 _ 198 rfl rfl (dep_of hdep 14 (by rfl))
                      unfold sm34aVal at EG
                      exact g_skip rfl rfl rfl EG rfl ⟨(), .inr rfl, hS⟩
                    · have EG := hval 14 _ 198 rfl rfl (dep_of hdep 14 (by rfl))
                      unfold sm34aVal at EG
                      exact g_skip rfl rfl rfl EG rfl ⟨(), .inr rfl, hS⟩
                    · have EG := hval 14 _ 198 rfl rfl (dep_of hdep 14 (by rfl))
                      unfold sm34aVal at EG
                      exact g_skip rfl rfl rfl EG rfl ⟨(), .inr rfl, hS⟩
                    · have EG := hval 11 _ 195 rfl rfl (dep_of hdep 11 (by rfl))
                      have E198 := hval 14 _ 198 rfl rfl (dep_of hdep 14 (by rfl))
                      have E209 := hval 25 _ 209 rfl rfl (dep_of hdep 25 (by rfl))
                      unfold sm34aVal at EG E198 E209
                      refine g_want rfl rfl rfl EG ?_
                      exact does_value (w' := W) (v := .bool false) (by go_simp) ⟨(), .inr rfl, hS⟩
                    · have E195 := hval 11 _ 195 rfl rfl (dep_of hdep 11 (by rfl))
                      have E210 := hval 26 _ 210 rfl rfl (dep_of hdep 26 (by rfl))
                      unfold sm34aVal at E195 E210
                      refine g_plain rfl ?_
                      exact does_value (w' := W) (v := .bool false) (by go_simp) ⟨(), .inr rfl, hS⟩
                  · intro gh W hS
                    have HQW := hid (HQY.out.keep hS)
                    have HIW := hid (HIR.out.keep hS)
                    clear hS HC
                    simp only [putAll, sm34aVal, Nat.reduceAdd, Nat.zero_add, Act.put, List.setIfInBounds_toArray, List.set_cons_zero, List.set_cons_succ]
                    clear HQY HIR HLX HHS 
                    go_wp2_with fail
                    go_roundw
                    case rel => exact ⟨i + 1, by go_num, by omega, HQW, HIW⟩
                    case measure => simp [intOf]; omega
                · have HI0 := hid (show (0 : Int) < (i : Int) from by omega)
                  obtain ⟨i2, hi2⟩ : ∃ i2, i = i2 + 1 := ⟨i - 1, by omega⟩
                  have HI2 := hid (show IntKind.i64.wrap ((i : Int) - 1) = (i2 : Int) from by rw [IntWalk.i64_in _ (by omega)]; omega)
                  have HI22 := hid (show (i2 : Int) < (kk : Int) from by omega)
                  obtain ⟨y, hy⟩ : ∃ y, ids[i2]? = some y := ⟨_, List.getElem?_eq_getElem (by omega)⟩
                  have hy32 := (hga i2 y hy).1
                  have HLY := hid (fun W (hW : Below wr.heap.size wr W) => (by
                    obtain ⟨_, h1⟩ := HIR.out.keep hW
                    obtain ⟨g', e, h2⟩ := h1 (by omega)
                    injection e with e
                    injection e with e
                    subst e
                    exact (h2 i2 y hy).2.1 : (loadVar 32 ⟨gi, i2 * 32, none⟩).run Try.prog W = .ok (.agg (bcells y)) W))
                  have HCM := hid (fun W => (qsha_compare y x W hy32 hx32).mono fun e w' h => (⟨h.1, h.2.below⟩ : e = .returned (.int .i64 (cmpL y x)) ∧ Below W.heap.size W w'))
                  have hlt3 : cmpL y x < 0 := by
                    have h1 := (List.getElem?_eq_some_iff.1 hy)
                    have h2 := (List.getElem?_eq_some_iff.1 hx)
                    obtain ⟨l1, e1⟩ := h1
                    obtain ⟨l2, e2⟩ := h2
                    have := List.pairwise_iff_getElem.1 HPW.out i2 i l1 l2 (by omega)
                    rw [e1, e2] at this
                    exact this
                  generalize cmpL y x = cv at HCM hlt3
                  have HCV := hid (show ¬ (0 : Int) ≤ cv from by omega)
                  clear hga hi1 hil hx hin hi0 hi2 hy hlt3
                  go_wp2_with fail
                  refine wp_region_invG 213 () (sm34bVal s b m gi kk ci i x i2 y cv) (fun _ _ W => Below wr.heap.size wr W) (by kernel_rfl) (by kernel_rfl) (by exact Nat.le_refl 213) ?_ ?_ ?_
                  · exact (Below.refl _ _).drew
                  · intro i o f gh a W hi hf hdep hsame hcl hval hS
                    rcases i with _ | _ | _ | _ | _ | _ | _ | _ | _ | _ | _ | _ | _ | _ | _ | _ | _ | _ | _ | _ | _ | _ | _ | _ | _ | _ | _ | _ | i
                    all_goals simp only [List.getElem?_cons_succ, List.getElem?_cons_zero, List.getElem?_nil, Option.some.injEq, reduceCtorEq] at hi
                    all_goals subst hi
                    · have E6 : a.tmps[6]? = some (.pointer (some ⟨s, 0, none⟩)) := (same_of hsame 6 (by rfl)).trans rfl
                      refine g_plain rfl ?_
                      exact does_value (w' := W) (v := .pointer (some ⟨s, 0, none⟩)) (by go_simp) ⟨(), .inr rfl, hS⟩
                    · have E8 : a.tmps[8]? = some (.slice (some ⟨b, 0, none⟩) 4 4) := (same_of hsame 8 (by rfl)).trans rfl
                      refine g_plain rfl ?_
                      exact does_value (w' := W) (v := .slice (some ⟨b, 0, none⟩) 4 4) (by go_simp) ⟨(), .inr rfl, hS⟩
                    · have E16 : a.tmps[16]? = some (.int .i64 (m : Int)) := (same_of hsame 16 (by rfl)).trans rfl
                      refine g_plain rfl ?_
                      exact does_value (w' := W) (v := .int .i64 (m : Int)) (by go_simp) ⟨(), .inr rfl, hS⟩
                    · have E185 := hval 1 _ 185 rfl rfl (dep_of hdep 1 (by rfl))
                      have E186 := hval 2 _ 186 rfl rfl (dep_of hdep 2 (by rfl))
                      unfold sm34bVal at E185 E186
                      obtain ⟨cn, hm3, hi3⟩ := HC.out W hS
                      refine g_plain rfl ?_
                      exact does_value (w' := W) (v := .pointer (some ⟨b, m, none⟩)) (by go_simp) ⟨(), .inr rfl, hS⟩
                    · have E187 := hval 3 _ 187 rfl rfl (dep_of hdep 3 (by rfl))
                      unfold sm34bVal at E187
                      obtain ⟨cn, hm3, hi3⟩ := HC.out W hS
                      refine g_plain rfl ?_
                      exact does_value (w' := W) (v := .string (strB (nm4 m))) (by go_simp) ⟨(), .inr rfl, hS⟩
                    · have E17 : a.tmps[17]? = some (.slice (some ⟨gi, 0, none⟩) kk ci) := (same_of hsame 17 (by rfl)).trans rfl
                      refine g_plain rfl ?_
                      exact does_value (w' := W) (v := .slice (some ⟨gi, 0, none⟩) kk ci) (by go_simp) ⟨(), .inr rfl, hS⟩
                    · have E18 : a.tmps[18]? = some (.int .i64 (i : Int)) := (same_of hsame 18 (by rfl)).trans rfl
                      refine g_plain rfl ?_
                      exact does_value (w' := W) (v := .int .i64 (i : Int)) (by go_simp) ⟨(), .inr rfl, hS⟩
                    · have E189 := hval 5 _ 189 rfl rfl (dep_of hdep 5 (by rfl))
                      have E190 := hval 6 _ 190 rfl rfl (dep_of hdep 6 (by rfl))
                      unfold sm34bVal at E189 E190
                      obtain ⟨cn, hm3, hi3⟩ := HC.out W hS
                      refine g_plain rfl ?_
                      exact does_value (w' := W) (v := .pointer (some ⟨gi, i * 32, none⟩)) (by go_simp) ⟨(), .inr rfl, hS⟩
                    · have E191 := hval 7 _ 191 rfl rfl (dep_of hdep 7 (by rfl))
                      unfold sm34bVal at E191
                      refine g_plain rfl ?_
                      exact does_load_run 32 _ rfl ⟨gi, i * 32, none⟩ _ (by rw [eval_getD, E191]; rfl) (HLX.out W hS) ⟨(), .inr rfl, hS⟩
                    · have E184 := hval 0 _ 184 rfl rfl (dep_of hdep 0 (by rfl))
                      have E188 := hval 4 _ 188 rfl rfl (dep_of hdep 4 (by rfl))
                      have E192 := hval 8 _ 192 rfl rfl (dep_of hdep 8 (by rfl))
                      unfold sm34bVal at E184 E188 E192
                      refine g_plain rfl ?_
                      refine does_call 21 #[.pointer (some ⟨s, 0, none⟩), .string (strB (nm4 m)), .agg (bcells x)] (by go_simp) ((HHS.out W hS).mono ?_)
                      rintro _ W' ⟨rfl, hb⟩
                      exact ⟨_, rfl, (), .inr rfl, hS.trans (hb.mono hS.size)⟩
                    · have E193 := hval 9 _ 193 rfl rfl (dep_of hdep 9 (by rfl))
                      unfold sm34bVal at E193
                      refine g_plain rfl ?_
                      exact does_value (w' := W) (v := .bool false) (by go_simp) ⟨(), .inr rfl, hS⟩
                    · have E194 := hval 10 _ 194 rfl rfl (dep_of hdep 10 (by rfl))
                      unfold sm34bVal at E194
                      refine g_plain rfl ?_
                      exact does_value (w' := W) (v := .bool false) (by go_simp) ⟨(), .inr rfl, hS⟩
                    · have EG := hval 11 _ 195 rfl rfl (dep_of hdep 11 (by rfl))
                      have E18 : a.tmps[18]? = some (.int .i64 (i : Int)) := (same_of hsame 18 (by rfl)).trans rfl
                      unfold sm34bVal at EG
                      refine g_want rfl rfl rfl EG ?_
                      exact does_value (w' := W) (v := .int .i64 (i : Int)) (by go_simp) ⟨(), .inr rfl, hS⟩
                    · have EG := hval 11 _ 195 rfl rfl (dep_of hdep 11 (by rfl))
                      have E196 := hval 12 _ 196 rfl rfl (dep_of hdep 12 (by rfl))
                      unfold sm34bVal at EG E196
                      have hi0 := HI0.out
                      have hi0n : 0 < i := by omega
                      refine g_want rfl rfl rfl EG ?_
                      exact does_value (w' := W) (v := .bool true) (by go_simp) ⟨(), .inr rfl, hS⟩
                    · have EG := hval 11 _ 195 rfl rfl (dep_of hdep 11 (by rfl))
                      have E197 := hval 13 _ 197 rfl rfl (dep_of hdep 13 (by rfl))
                      unfold sm34bVal at EG E197
                      refine g_want rfl rfl rfl EG ?_
                      exact does_value (w' := W) (v := .bool true) (by go_simp) ⟨(), .inr rfl, hS⟩
                    · have EG := hval 14 _ 198 rfl rfl (dep_of hdep 14 (by rfl))
                      have E17 : a.tmps[17]? = some (.slice (some ⟨gi, 0, none⟩) kk ci) := (same_of hsame 17 (by rfl)).trans rfl
                      unfold sm34bVal at EG
                      refine g_want rfl rfl rfl EG ?_
                      exact does_value (w' := W) (v := .slice (some ⟨gi, 0, none⟩) kk ci) (by go_simp) ⟨(), .inr rfl, hS⟩
                    · have EG := hval 14 _ 198 rfl rfl (dep_of hdep 14 (by rfl))
                      have E18 : a.tmps[18]? = some (.int .i64 (i : Int)) := (same_of hsame 18 (by rfl)).trans rfl
                      unfold sm34bVal at EG
                      refine g_want rfl rfl rfl EG ?_
                      exact does_value (w' := W) (v := .int .i64 (i : Int)) (by go_simp) ⟨(), .inr rfl, hS⟩
                    · have EG := hval 14 _ 198 rfl rfl (dep_of hdep 14 (by rfl))
                      have E200 := hval 16 _ 200 rfl rfl (dep_of hdep 16 (by rfl))
                      unfold sm34bVal at EG E200
                      obtain ⟨cn, hm3, hi3⟩ := HC.out W hS
                      have hi2 := HI2.out
                      refine g_want rfl rfl rfl EG ?_
                      exact does_value (w' := W) (v := .int .i64 (i2 : Int)) (by go_simp) ⟨(), .inr rfl, hS⟩
                    · have EG := hval 14 _ 198 rfl rfl (dep_of hdep 14 (by rfl))
                      have E199 := hval 15 _ 199 rfl rfl (dep_of hdep 15 (by rfl))
                      have E201 := hval 17 _ 201 rfl rfl (dep_of hdep 17 (by rfl))
                      unfold sm34bVal at EG E199 E201
                      obtain ⟨cn, hm3, hi3⟩ := HC.out W hS
                      have hi22 := HI22.out
                      refine g_want rfl rfl rfl EG ?_
                      exact does_value (w' := W) (v := .pointer (some ⟨gi, i2 * 32, none⟩)) (by go_simp) ⟨(), .inr rfl, hS⟩
                    · have EG := hval 14 _ 198 rfl rfl (dep_of hdep 14 (by rfl))
                      have E202 := hval 18 _ 202 rfl rfl (dep_of hdep 18 (by rfl))
                      unfold sm34bVal at EG E202
                      refine g_want rfl rfl rfl EG ?_
                      exact does_load_run 32 _ rfl ⟨gi, i2 * 32, none⟩ _ (by rw [eval_getD, E202]; rfl) (HLY.out W hS) ⟨(), .inr rfl, hS⟩
                    · have EG := hval 14 _ 198 rfl rfl (dep_of hdep 14 (by rfl))
                      have E17 : a.tmps[17]? = some (.slice (some ⟨gi, 0, none⟩) kk ci) := (same_of hsame 17 (by rfl)).trans rfl
                      unfold sm34bVal at EG
                      refine g_want rfl rfl rfl EG ?_
                      exact does_value (w' := W) (v := .slice (some ⟨gi, 0, none⟩) kk ci) (by go_simp) ⟨(), .inr rfl, hS⟩
                    · have EG := hval 14 _ 198 rfl rfl (dep_of hdep 14 (by rfl))
                      have E18 : a.tmps[18]? = some (.int .i64 (i : Int)) := (same_of hsame 18 (by rfl)).trans rfl
                      unfold sm34bVal at EG
                      refine g_want rfl rfl rfl EG ?_
                      exact does_value (w' := W) (v := .int .i64 (i : Int)) (by go_simp) ⟨(), .inr rfl, hS⟩
                    · have EG := hval 14 _ 198 rfl rfl (dep_of hdep 14 (by rfl))
                      have E204 := hval 20 _ 204 rfl rfl (dep_of hdep 20 (by rfl))
                      have E205 := hval 21 _ 205 rfl rfl (dep_of hdep 21 (by rfl))
                      unfold sm34bVal at EG E204 E205
                      obtain ⟨cn, hm3, hi3⟩ := HC.out W hS
                      refine g_want rfl rfl rfl EG ?_
                      exact does_value (w' := W) (v := .pointer (some ⟨gi, i * 32, none⟩)) (by go_simp) ⟨(), .inr rfl, hS⟩
                    · have EG := hval 14 _ 198 rfl rfl (dep_of hdep 14 (by rfl))
                      have E206 := hval 22 _ 206 rfl rfl (dep_of hdep 22 (by rfl))
                      unfold sm34bVal at EG E206
                      refine g_want rfl rfl rfl EG ?_
                      exact does_load_run 32 _ rfl ⟨gi, i * 32, none⟩ _ (by rw [eval_getD, E206]; rfl) (HLX.out W hS) ⟨(), .inr rfl, hS⟩
                    · have EG := hval 14 _ 198 rfl rfl (dep_of hdep 14 (by rfl))
                      have E203 := hval 19 _ 203 rfl rfl (dep_of hdep 19 (by rfl))
                      have E207 := hval 23 _ 207 rfl rfl (dep_of hdep 23 (by rfl))
                      unfold sm34bVal at EG E203 E207
                      refine g_want rfl rfl rfl EG ?_
                      refine does_call 37 #[.agg (bcells y), .agg (bcells x)] (by go_simp) ((HCM.out W).mono ?_)
                      rintro _ W' ⟨rfl, hb⟩
                      exact ⟨_, rfl, (), .inr rfl, hS.trans (hb.mono hS.size)⟩
                    · have EG := hval 14 _ 198 rfl rfl (dep_of hdep 14 (by rfl))
                      have E208 := hval 24 _ 208 rfl rfl (dep_of hdep 24 (by rfl))
                      unfold sm34bVal at EG E208
                      have hcv := HCV.out
                      refine g_want rfl rfl rfl EG ?_
                      exact does_value (w' := W) (v := .bool false) (by go_simp) ⟨(), .inr rfl, hS⟩
                    · have EG := hval 11 _ 195 rfl rfl (dep_of hdep 11 (by rfl))
                      have E198 := hval 14 _ 198 rfl rfl (dep_of hdep 14 (by rfl))
                      have E209 := hval 25 _ 209 rfl rfl (dep_of hdep 25 (by rfl))
                      unfold sm34bVal at EG E198 E209
                      refine g_want rfl rfl rfl EG ?_
                      exact does_value (w' := W) (v := .bool false) (by go_simp) ⟨(), .inr rfl, hS⟩
                    · have E195 := hval 11 _ 195 rfl rfl (dep_of hdep 11 (by rfl))
                      have E210 := hval 26 _ 210 rfl rfl (dep_of hdep 26 (by rfl))
                      unfold sm34bVal at E195 E210
                      refine g_plain rfl ?_
                      exact does_value (w' := W) (v := .bool false) (by go_simp) ⟨(), .inr rfl, hS⟩
                  · intro gh W hS
                    have HQW := hid (HQY.out.keep hS)
                    have HIW := hid (HIR.out.keep hS)
                    clear hS HC
                    simp only [putAll, sm34bVal, Nat.reduceAdd, Nat.zero_add, Act.put, List.setIfInBounds_toArray, List.set_cons_zero, List.set_cons_succ]
                    clear HQY HIR HLX HHS HLY HCM
                    go_wp2_with fail
                    go_roundw
                    case rel => exact ⟨i + 1, by go_num, by omega, HQW, HIW⟩
                    case measure => simp [intOf]; omega
              · obtain rfl : i = kk := by omega
                clear HPW HME H32 HIR
                go_wp2_with fail
                go_roundw
                case rel => exact ⟨m + 1, by go_num, by omega, HQY⟩
                case measure => simp [intOf]; omega
          · obtain rfl : m = 4 := by omega
            rw [show ((4 : Nat) : Int) = 4 from rfl]
            go_wp2_with fail
            go_ret
            exact ⟨rfl, HQM.out.below⟩

  · clear HLg
    go_wp2_with fail
    go_ret
    exact ⟨rfl, HB1.out⟩
end Go.Proofs.Ytjgnbmkhibdcfaa
