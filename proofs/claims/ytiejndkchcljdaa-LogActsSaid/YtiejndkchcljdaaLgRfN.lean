/- Contract: Write of the plain reference's log. Written by tools/mklg.py out of XLgRfX.tpl. -/
import Derived.Test.YtiejndkchcljdaaLgRfW
import Derived.Test.YtiejndkchcljdaaLgScan
namespace Go.Proofs.Ytiejndkchcljdaa
open Go.RowKit

theorem recs_chg {w w' : World} {B : Nat} {L : List Nat} {v : Value} {l : List (List UInt8)} {us : List Value} (h : Recs w B v l us) (hc : Chg L w w') (hL : ∀ b, (v.ownBlock = some b ∨ ∃ u ∈ us, u.ownBlock = some b) → b ∉ L) : Recs w' B v l us where
  row := ownsRow_chg h.row hc (fun b hb => hL b (.inl hb))
  each := fun k x u hx hu => (h.each k x u hx hu).chg hc (fun g e => hL g (.inr ⟨u, List.mem_of_getElem? hu, e⟩))
  far := h.far
  apart := h.apart
/-- the blocks of a list -/
def recBlocks (v : Value) (us : List Value) : List Nat := v.ownBlock.toList ++ us.flatMap (fun u => u.ownBlock.toList)
theorem mem_recBlocks {v : Value} {us : List Value} {b : Nat} : b ∈ recBlocks v us ↔ (v.ownBlock = some b ∨ ∃ u ∈ us, u.ownBlock = some b) := by
  unfold recBlocks
  simp only [List.mem_append, Option.mem_toList, List.mem_flatMap]
theorem recs_held {w w' : World} {B : Nat} {H : List Nat} {v : Value} {l : List (List UInt8)} {us : List Value} (h : Recs w B v l us) (hh : HeldW H w w') (hH : ∀ b ∈ recBlocks v us, b ∈ H) : Recs w' B v l us := by
  obtain ⟨L, hc, hl⟩ := hh
  exact recs_chg h hc (fun b hb => hl b (hH b (mem_recBlocks.2 hb)))
theorem run_ix_rows (q n c k : Nat) (h : k < n) (W : World) : (Instr.indexAt 50 (.slice (some ⟨q, 0, none⟩) n c) (.int .i64 (k : Int))).run Try.prog W = .ok (.pointer (some ⟨q, k, none⟩)) W := ix_row q n c k h W
def lw8aVal (T : Nat) (fr : Nat) (p : Nat) (n : Nat) (nd : Nat) (c : Nat) (y : Int) (A : Option Addr) : Nat → Unit → Value
  | 0, _ => .pointer (some ⟨T, 1, none⟩)
  | 1, _ => .int .i64 y
  | 2, _ => .pointer (some ⟨T, 0, none⟩)
  | 3, _ => .int .i64 (fr : Int)
  | 4, _ => .int .i64 (y - (fr : Int))
  | 5, _ => .int .i64 (p : Int)
  | 6, _ => .int .i64 (y - (fr : Int) - (p : Int))
  | 7, _ => .slice A n c
  | 8, _ => .int .i64 (n : Int)
  | 9, _ => .int .i64 (nd : Int)
  | 10, _ => .bool true
  | 11, _ => .bool true
  | _, _ => undef
def lw8bVal (T : Nat) (fr : Nat) (p : Nat) (n : Nat) (nd : Nat) (c : Nat) (y : Int) (A : Option Addr) : Nat → Unit → Value
  | 0, _ => .pointer (some ⟨T, 1, none⟩)
  | 1, _ => .int .i64 y
  | 2, _ => .pointer (some ⟨T, 0, none⟩)
  | 3, _ => .int .i64 (fr : Int)
  | 4, _ => .int .i64 (y - (fr : Int))
  | 5, _ => .int .i64 (p : Int)
  | 6, _ => .int .i64 (y - (fr : Int) - (p : Int))
  | 7, _ => .slice A n c
  | 8, _ => .int .i64 (n : Int)
  | 9, _ => .int .i64 (nd : Int)
  | 10, _ => .bool false
  | 11, _ => .bool false
  | _, _ => undef
def lw14Val (gx : Nat) (T : Nat) (fr : Nat) (p : Nat) (j : Nat) (q : Nat) (nd : Nat) (cq : Nat) (qb : Nat) (cb : Nat) (er : Nat) : Nat → Unit → Value
  | 0, _ => .pointer (some ⟨gx, 0, none⟩)
  | 1, _ => .pointer (some ⟨T, 0, none⟩)
  | 2, _ => .int .i64 (fr : Int)
  | 3, _ => .int .i64 (p : Int)
  | 4, _ => .int .i64 ((fr : Int) + (p : Int))
  | 5, _ => .int .i64 (j : Int)
  | 6, _ => .int .i64 ((fr : Int) + (p : Int) + (j : Int))
  | 7, _ => .slice (some ⟨q, 0, none⟩) nd cq
  | 8, _ => .int .i64 (j : Int)
  | 9, _ => .pointer (some ⟨q, j, none⟩)
  | 10, _ => .slice (some ⟨qb, 0, none⟩) 64 cb
  | 11, _ => .int .i64 (er : Int)
  | 12, _ => .int .i64 (er : Int)
  | _, _ => undef
section
variable (bx gx m : Nat) (Fx : List Nat) (s : DS) (w : World)
set_option maxHeartbeats 1500000 in
set_option maxRecDepth 20000 in
theorem rLogWrite_calls (a : AR) (at_ : Int) (A : Option Addr) (n c B : Nat) (rec : List UInt8) (h : RdB w bx Fx gx m s) (h1n : 1 ≤ s.n) (hb : bx ≤ w.heap.size) (M : Nat) (hM : s.n + 1 ≤ M) (hm : m ≤ 100000) (hlo : s.loose.length ≤ 100000) (hs : SB w B A n rec) (hc : n ≤ c) (hat : -9223372036854775808 ≤ at_ ∧ at_ ≤ 9223372036854775807) :
    Calls Try.prog 18 #[.pointer (some ⟨gx, 0, none⟩), arv a, .int .i64 at_, .slice A n c] w (RdPost w bx Fx gx (m + M) (logWR s a at_ rec).1 (.tuple #[.int .i64 (logWR s a at_ rec).2.1, .int .i64 ((logWR s a at_ rec).2.2 : Int)])) := by
  have hnb := h.ok.nb
  have hlen := hs.1
  obtain ⟨x, y, z⟩ := a
  have HCK := hid (fun W (hW : Below w.heap.size w W) => rCheck_calls bx gx m Fx s W ⟨x, y, z⟩ (h.keep hW) h1n)
  have HX := hid (RX.start h hb)
  obtain ⟨RR, hRR⟩ : ∃ RR, logWR s ⟨x, y, z⟩ at_ rec = RR := ⟨_, rfl⟩
  rw [hRR]
  have HRR := hid hRR
  have HS := hid hs.fit
  have HLO := hid hlo
  have HTB := hid (Blk.new w 33 #[.int .i64 x, .int .i64 y, .int .i64 z])
  have HB1 := hid (below_new w (.cells #[.int .i64 x, .int .i64 y, .int .i64 z] 33))
  clear h h1n hb hs hRR hlo
  rw [show arv ⟨x, y, z⟩ = .agg #[.int .i64 x, .int .i64 y, .int .i64 z] from rfl] at HCK ⊢
  by_cases hC : checkE s.n ⟨x, y, z⟩ = 0
  · have hk := check_ok hC
    obtain ⟨k1, k2, k3, k4, k5⟩ := hk
    dsimp only at k1 k2 k3 k4 k5
    rw [hC] at HCK
    have HRE := hid (show RR = if at_ < 0 ∨ y - x < at_ then (s, 0, 3) else if 1048576 < rec.length then (s, 0, 4) else if y - x - at_ < (needN rec.length : Int) then (s, 0, 10)
        else if (writesS s (x + at_) (recSecs z.toNat at_.toNat rec)).2 = 0 then ((writesS s (x + at_) (recSecs z.toNat at_.toNat rec)).1, at_ + (needN rec.length : Int), 0)
        else ((writesS s (x + at_) (recSecs z.toNat at_.toNat rec)).1, 0, (writesS s (x + at_) (recSecs z.toNat at_.toNat rec)).2) from by rw [← HRR.out]; unfold logWR; rw [if_pos hC])
    clear HRR hC
    have hq0 : 0 ≤ x := k1
    have hyx : y - x ≤ 65536 := by omega
    go_enter Try.func18, Try.ntmps18
    go_wp2_with fail
    have HX1 := hid (HX.out.more (H' := [w.heap.size]) HB1.out (fun b hb => .inr (by rw [List.mem_singleton.1 hb]; exact ⟨Nat.le_refl _, HTB.out.lt⟩)))
    have HS1 := hid (HS.out.keep HB1.out)
    generalize w.alloc (.cells #[.int .i64 x, .int .i64 y, .int .i64 z] 33) = w1 at HTB HB1 HX1 HS1 ⊢
    generalize hT : w.heap.size = T at HTB HX1 HS1 ⊢
    have HTE := hid hT
    clear hT
    refine (HCK.out w1 HB1.out).mono ?_
    rintro _ w2 ⟨rfl, hb2⟩
    have HX2 := hid (HX1.out.keep hb2); have HT2 := hid (HTB.out.keep hb2); have HS2 := hid (HS1.out.fit.keep hb2)
    clear hb2 HCK HX HX1 HTB HB1 HS HS1
    have c0 := HT2.out.cell 0 (show _ = some (Value.int .i64 x) from rfl)
    have c1 := HT2.out.cell 1 (show _ = some (Value.int .i64 y) from rfl)
    have c2 := HT2.out.cell 2 (show _ = some (Value.int .i64 z) from rfl)
    have eyx : IntKind.i64.wrap (y - x) = y - x := by rw [IntWalk.i64_in] <;> omega
    by_cases ha1 : at_ < 0
    · have HRX := hid (show RR = (s, 0, 3) from by rw [HRE.out, if_pos (.inl ha1)])
      clear HRE
      go_wp2_with fail
      go_ret2
      rw [HRX.out]
      exact HX2.out.post (by omega) _
    by_cases ha2 : y - x < at_
    · have HRX := hid (show RR = (s, 0, 3) from by rw [HRE.out, if_pos (.inr ha2)])
      clear HRE
      go_wp2_with fail
      go_ret2
      rw [HRX.out]
      exact HX2.out.post (by omega) _
    by_cases hl1 : 1048576 < n
    · have HRX := hid (show RR = (s, 0, 4) from by rw [HRE.out, if_neg (by omega), if_pos (by omega)])
      have q1 : (1048576 : Int) < (n : Int) := by omega
      clear HRE
      go_wp2_with fail
      go_ret2
      rw [HRX.out]
      exact HX2.out.post (by omega) _
    obtain ⟨p, rfl⟩ : ∃ p : Nat, at_ = (p : Int) := ⟨at_.toNat, by omega⟩
    obtain ⟨fr, rfl⟩ : ∃ fr : Nat, x = (fr : Int) := ⟨x.toNat, by omega⟩
    obtain ⟨gn, rfl⟩ : ∃ gn : Nat, z = (gn : Int) := ⟨z.toNat, by omega⟩
    rw [Int.toNat_natCast, Int.toNat_natCast, if_neg (by omega), if_neg (by omega)] at HRE
    have q1 : ¬ (1048576 : Int) < (n : Int) := by omega
    have HND := hid (fun W => (show Calls Try.prog 39 #[.int .i64 (n : Int)] W fun e w' => e = .returned (.int .i64 (needN rec.length : Int)) ∧ W = w' from by
      have := rNeed_calls (n : Int) W
      rwa [show needE (n : Int) = needN rec.length from by unfold needE; rw [if_neg (by omega), Int.toNat_natCast, hlen]] at this))
    have hnu : needN rec.length ≤ 21400 := by unfold needN; omega
    have hnp := need_pos rec.length
    have HSR := hid (fun W (hW : Below w2.heap.size w2 W) => show Calls Try.prog 54 #[.int .i64 (gn : Int), .int .i64 (p : Int), .slice A n c] W fun e w' => ∃ v vs, e = .returned v ∧ Recs w' W.heap.size v (secsR gn p rec (needN rec.length)) vs ∧ Below W.heap.size W w' from by
      have := rSectors_calls gn p n _ c A rec W (HS2.out.fit.keep hW) hc (by omega) (by omega)
      rwa [show needN n = needN rec.length from by rw [hlen]] at this)
    have HRC := hid (show recSecs gn p rec = secsR gn p rec (needN rec.length) from rfl)
    rw [HRC.out] at HRE
    have HSN := hid (secsR_len gn p rec (needN rec.length))
    clear HRC
    generalize hsecs : secsR gn p rec (needN rec.length) = secs at HRE HSR HSN
    have HSQ := hid (show ∀ (j : Nat) b, secs[j]? = some b → b.length = 64 from fun j b hb => by
      rw [← hsecs] at hb
      unfold secsR at hb
      rw [List.getElem?_map] at hb
      obtain ⟨i, hi, rfl⟩ := Option.map_eq_some_iff.1 hb
      exact secL_length (by rw [partN_length]; omega))
    clear hsecs
    generalize needN rec.length = nd at HND HRE HSN hnu hnp
    have eyp : IntKind.i64.wrap (y - (fr : Int) - (p : Int)) = y - (fr : Int) - (p : Int) := by rw [IntWalk.i64_in] <;> omega
    have HC0 := hid (fun W (hW : Below w2.heap.size w2 W) => (HT2.out.keep hW).cell 0 (show _ = some (Value.int .i64 (fr : Int)) from rfl))
    have HC1 := hid (fun W (hW : Below w2.heap.size w2 W) => (HT2.out.keep hW).cell 1 (show _ = some (Value.int .i64 y) from rfl))
    have HST := hid (show CkS w2 (fun j => decide (12 ≤ j)) (fun _ => ()) w2.drew from (Below.refl _ _).drew)
    by_cases hfu : y - (fr : Int) - (p : Int) < (nd : Int)
    · have HRX := hid (show RR = (s, 0, 10) from by rw [HRE.out, if_pos hfu])
      clear HRE HSR HSN HSQ c2
      go_wp2_with fail
      refine wp_region_invG 79 () (lw8aVal T fr p n nd c y A) (CkS w2) (by kernel_rfl) (by kernel_rfl) (by exact Nat.le_refl 79) ?_ ?_ ?_
      · exact HST.out
      · intro i o f gh a W hi hf hdep hsame hcl hval hS
        rcases i with _ | _ | _ | _ | _ | _ | _ | _ | _ | _ | _ | _ | i
        all_goals simp only [List.getElem?_cons_succ, List.getElem?_cons_zero, List.getElem?_nil, Option.some.injEq, reduceCtorEq] at hi
        all_goals subst hi
        · have E5 : a.tmps[5]? = some (.pointer (some ⟨T, 0, none⟩)) := (same_of hsame 5 (by rfl)).trans rfl
          refine g_plain rfl ?_
          exact does_value (w' := W) (v := .pointer (some ⟨T, 1, none⟩)) (by go_simp) ⟨(), .inr rfl, hS⟩
        · have E38 := hval 0 _ 38 rfl rfl (dep_of hdep 0 (by rfl))
          unfold lw8aVal at E38
          have c1 := HC1.out W hS
          refine g_plain rfl ?_
          exact does_value (w' := W) (v := .int .i64 y) (by go_simp) ⟨(), .inr rfl, hS⟩
        · have E5 : a.tmps[5]? = some (.pointer (some ⟨T, 0, none⟩)) := (same_of hsame 5 (by rfl)).trans rfl
          refine g_plain rfl ?_
          exact does_value (w' := W) (v := .pointer (some ⟨T, 0, none⟩)) (by go_simp) ⟨(), .inr rfl, hS⟩
        · have E40 := hval 2 _ 40 rfl rfl (dep_of hdep 2 (by rfl))
          unfold lw8aVal at E40
          have c1 := HC0.out W hS
          refine g_plain rfl ?_
          exact does_value (w' := W) (v := .int .i64 (fr : Int)) (by go_simp) ⟨(), .inr rfl, hS⟩
        · have E39 := hval 1 _ 39 rfl rfl (dep_of hdep 1 (by rfl))
          have E41 := hval 3 _ 41 rfl rfl (dep_of hdep 3 (by rfl))
          unfold lw8aVal at E39 E41
          refine g_plain rfl ?_
          exact does_value (w' := W) (v := .int .i64 (y - (fr : Int))) (by go_simp) ⟨(), .inr rfl, hS⟩
        · have E2 : a.tmps[2]? = some (.int .i64 (p : Int)) := (same_of hsame 2 (by rfl)).trans rfl
          refine g_plain rfl ?_
          exact does_value (w' := W) (v := .int .i64 (p : Int)) (by go_simp) ⟨(), .inr rfl, hS⟩
        · have E42 := hval 4 _ 42 rfl rfl (dep_of hdep 4 (by rfl))
          have E43 := hval 5 _ 43 rfl rfl (dep_of hdep 5 (by rfl))
          unfold lw8aVal at E42 E43
          refine g_plain rfl ?_
          exact does_value (w' := W) (v := .int .i64 (y - (fr : Int) - (p : Int))) (by go_simp) ⟨(), .inr rfl, hS⟩
        · have E3 : a.tmps[3]? = some (.slice A n c) := (same_of hsame 3 (by rfl)).trans rfl
          refine g_plain rfl ?_
          exact does_value (w' := W) (v := .slice A n c) (by go_simp) ⟨(), .inr rfl, hS⟩
        · have E45 := hval 7 _ 45 rfl rfl (dep_of hdep 7 (by rfl))
          unfold lw8aVal at E45
          refine g_plain rfl ?_
          exact does_value (w' := W) (v := .int .i64 (n : Int)) (by go_simp) ⟨(), .inr rfl, hS⟩
        · have E46 := hval 8 _ 46 rfl rfl (dep_of hdep 8 (by rfl))
          unfold lw8aVal at E46
          refine g_plain rfl ?_
          refine does_call 39 #[.int .i64 (n : Int)] (by go_simp) ((HND.out W).mono ?_)
          rintro _ _ ⟨rfl, rfl⟩
          exact ⟨_, rfl, (), .inr rfl, hS⟩
        · have E44 := hval 6 _ 44 rfl rfl (dep_of hdep 6 (by rfl))
          have E47 := hval 9 _ 47 rfl rfl (dep_of hdep 9 (by rfl))
          unfold lw8aVal at E44 E47
          refine g_plain rfl ?_
          exact does_value (w' := W) (v := .bool true) (by go_simp) ⟨(), .inr rfl, hS⟩
        · have E48 := hval 10 _ 48 rfl rfl (dep_of hdep 10 (by rfl))
          unfold lw8aVal at E48
          refine g_plain rfl ?_
          exact does_value (w' := W) (v := .bool true) (by go_simp) ⟨(), .inr rfl, hS⟩
      · intro gh w3 hS
        have HX3 := hid (HX2.out.keep (show Below w2.heap.size w2 w3 from hS))
        clear hS HST HC0 HC1 HND HX2
        simp only [putAll, lw8aVal, Nat.reduceAdd, Nat.zero_add, Act.put, List.setIfInBounds_toArray, List.set_cons_zero, List.set_cons_succ]
        go_wp2_with fail
        go_ret2
        rw [HRX.out]
        exact HX3.out.post (by omega) _
    · rw [if_neg hfu] at HRE
      have hndM : nd ≤ M := by omega
      go_wp2_with fail
      refine wp_region_invG 79 () (lw8bVal T fr p n nd c y A) (CkS w2) (by kernel_rfl) (by kernel_rfl) (by exact Nat.le_refl 79) ?_ ?_ ?_
      · exact HST.out
      · intro i o f gh a W hi hf hdep hsame hcl hval hS
        rcases i with _ | _ | _ | _ | _ | _ | _ | _ | _ | _ | _ | _ | i
        all_goals simp only [List.getElem?_cons_succ, List.getElem?_cons_zero, List.getElem?_nil, Option.some.injEq, reduceCtorEq] at hi
        all_goals subst hi
        · have E5 : a.tmps[5]? = some (.pointer (some ⟨T, 0, none⟩)) := (same_of hsame 5 (by rfl)).trans rfl
          refine g_plain rfl ?_
          exact does_value (w' := W) (v := .pointer (some ⟨T, 1, none⟩)) (by go_simp) ⟨(), .inr rfl, hS⟩
        · have E38 := hval 0 _ 38 rfl rfl (dep_of hdep 0 (by rfl))
          unfold lw8bVal at E38
          have c1 := HC1.out W hS
          refine g_plain rfl ?_
          exact does_value (w' := W) (v := .int .i64 y) (by go_simp) ⟨(), .inr rfl, hS⟩
        · have E5 : a.tmps[5]? = some (.pointer (some ⟨T, 0, none⟩)) := (same_of hsame 5 (by rfl)).trans rfl
          refine g_plain rfl ?_
          exact does_value (w' := W) (v := .pointer (some ⟨T, 0, none⟩)) (by go_simp) ⟨(), .inr rfl, hS⟩
        · have E40 := hval 2 _ 40 rfl rfl (dep_of hdep 2 (by rfl))
          unfold lw8bVal at E40
          have c1 := HC0.out W hS
          refine g_plain rfl ?_
          exact does_value (w' := W) (v := .int .i64 (fr : Int)) (by go_simp) ⟨(), .inr rfl, hS⟩
        · have E39 := hval 1 _ 39 rfl rfl (dep_of hdep 1 (by rfl))
          have E41 := hval 3 _ 41 rfl rfl (dep_of hdep 3 (by rfl))
          unfold lw8bVal at E39 E41
          refine g_plain rfl ?_
          exact does_value (w' := W) (v := .int .i64 (y - (fr : Int))) (by go_simp) ⟨(), .inr rfl, hS⟩
        · have E2 : a.tmps[2]? = some (.int .i64 (p : Int)) := (same_of hsame 2 (by rfl)).trans rfl
          refine g_plain rfl ?_
          exact does_value (w' := W) (v := .int .i64 (p : Int)) (by go_simp) ⟨(), .inr rfl, hS⟩
        · have E42 := hval 4 _ 42 rfl rfl (dep_of hdep 4 (by rfl))
          have E43 := hval 5 _ 43 rfl rfl (dep_of hdep 5 (by rfl))
          unfold lw8bVal at E42 E43
          refine g_plain rfl ?_
          exact does_value (w' := W) (v := .int .i64 (y - (fr : Int) - (p : Int))) (by go_simp) ⟨(), .inr rfl, hS⟩
        · have E3 : a.tmps[3]? = some (.slice A n c) := (same_of hsame 3 (by rfl)).trans rfl
          refine g_plain rfl ?_
          exact does_value (w' := W) (v := .slice A n c) (by go_simp) ⟨(), .inr rfl, hS⟩
        · have E45 := hval 7 _ 45 rfl rfl (dep_of hdep 7 (by rfl))
          unfold lw8bVal at E45
          refine g_plain rfl ?_
          exact does_value (w' := W) (v := .int .i64 (n : Int)) (by go_simp) ⟨(), .inr rfl, hS⟩
        · have E46 := hval 8 _ 46 rfl rfl (dep_of hdep 8 (by rfl))
          unfold lw8bVal at E46
          refine g_plain rfl ?_
          refine does_call 39 #[.int .i64 (n : Int)] (by go_simp) ((HND.out W).mono ?_)
          rintro _ _ ⟨rfl, rfl⟩
          exact ⟨_, rfl, (), .inr rfl, hS⟩
        · have E44 := hval 6 _ 44 rfl rfl (dep_of hdep 6 (by rfl))
          have E47 := hval 9 _ 47 rfl rfl (dep_of hdep 9 (by rfl))
          unfold lw8bVal at E44 E47
          refine g_plain rfl ?_
          exact does_value (w' := W) (v := .bool false) (by go_simp) ⟨(), .inr rfl, hS⟩
        · have E48 := hval 10 _ 48 rfl rfl (dep_of hdep 10 (by rfl))
          unfold lw8bVal at E48
          refine g_plain rfl ?_
          exact does_value (w' := W) (v := .bool false) (by go_simp) ⟨(), .inr rfl, hS⟩
      · intro gh w3 hS
        have HB3 := hid (show Below w2.heap.size w2 w3 from hS)
        have HX3 := hid (HX2.out.keep HB3.out)
        have HT3 := hid (HT2.out.keep HB3.out)
        have HSE := hid (HSR.out w3 HB3.out)
        clear hS HST HC0 HC1 HND HX2 HSR HT2 HS2 c0 c1 c2
        simp only [putAll, lw8bVal, Nat.reduceAdd, Nat.zero_add, Act.put, List.setIfInBounds_toArray, List.set_cons_zero, List.set_cons_succ]
        have c2 := HT3.out.cell 2 (show _ = some (Value.int .i64 (gn : Int)) from rfl)
        go_wp2_with fail
        refine HSE.out.mono ?_
        rintro _ w4 ⟨v4, vs, rfl, hr4, hb4⟩
        obtain ⟨q, cq, rfl⟩ := Go.Joins.ownsRow_form hr4.row (by rw [HSN.out]; omega)
        have HR4 := hid hr4
        have HX4 := hid (HX3.out.more (H' := T :: recBlocks (.slice (some ⟨q, 0, none⟩) secs.length cq) vs) hb4 (fun b hb => by
          rcases List.mem_cons.1 hb with rfl | hb
          · exact .inl (by simp)
          · exact .inr (hr4.lt b (mem_recBlocks.1 hb))))
        have HT4 := hid (HT3.out.keep hb4)
        have HRW := hid (show RR = (if (writesS s ((fr : Int) + (p : Int)) secs).2 = 0 then ((writesS s ((fr : Int) + (p : Int)) secs).1, (p : Int) + (nd : Int), 0) else ((writesS s ((fr : Int) + (p : Int)) secs).1, 0, (writesS s ((fr : Int) + (p : Int)) secs).2)) from HRE.out)
        generalize hRW : writesS s ((fr : Int) + (p : Int)) secs = R at HRW
        have HW0 := hid (show writesS s ((fr : Int) + (p : Int) + ((0 : Nat) : Int)) (secs.drop 0) = R from by rw [← hRW]; simp)
        rw [HSN.out] at HX4 HR4 ⊢
        clear hr4 hb4 hRW HRE HSE HX3 HT3 c2
        go_wp2_with fail
        go_loopw [12] (fun i wr => ∃ (j : Nat) (s' : DS), j ≤ nd ∧ i = .int .i64 (j : Int) ∧ Hid (RX w bx Fx gx (m + j) (T :: recBlocks (.slice (some ⟨q, 0, none⟩) nd cq) vs) s' wr) ∧ Hid (Blk wr T 33 #[.int .i64 (fr : Int), .int .i64 y, .int .i64 (gn : Int)]) ∧ Hid (Recs wr w3.heap.size (.slice (some ⟨q, 0, none⟩) nd cq) secs vs) ∧ Hid (s'.loose.length ≤ 100000 + j) ∧ Hid (writesS s' ((fr : Int) + (p : Int) + (j : Int)) (secs.drop j) = R)) (fun i _ => nd - (intOf i).toNat)
        case atStart => exact ⟨0, s, Nat.zero_le _, rfl, HX4, HT4, HR4, hid (by have := HLO.out; omega), HW0⟩
        case round =>
          clear HX4 HT4 HR4 HLO HW0
          obtain ⟨j, s', hj, rfl, HX, HT, HR, HLO, HW⟩ := hrel
          by_cases hlt : j < nd
          · have q2 : (j : Int) < (nd : Int) := by omega
            obtain ⟨b, hbj⟩ : ∃ b, secs[j]? = some b := ⟨_, List.getElem?_eq_getElem (by rw [HSN.out]; exact hlt)⟩
            obtain ⟨u, huj⟩ : ∃ u, vs[j]? = some u := ⟨_, List.getElem?_eq_getElem (by rw [HR.out.len, HSN.out]; exact hlt)⟩
            have h64 := HSQ.out j b hbj
            have hob := HR.out.each j b u hbj huj
            rw [h64] at hob
            obtain ⟨qb, cb, rfl⟩ := Go.Joins.ownsRow_form hob (by omega)
            have hrow := HR.out.row
            rw [HSN.out] at hrow
            have hcell := (World.ownsRow.cellAt hrow j (by omega)).trans huj
            obtain ⟨A9, c9, e9, -, hs9, -⟩ := hob.sb
            cases e9
            have HSB9 := hid hs9
            have hmem : qb ∈ recBlocks (.slice (some ⟨q, 0, none⟩) nd cq) vs := mem_recBlocks.2 (.inr ⟨_, List.mem_of_getElem? huj, rfl⟩)
            have HN := hid (show (if writeE s' ((fr : Int) + (p : Int) + (j : Int)) 64 = 0 then writesS (writeS s' ((fr : Int) + (p : Int) + (j : Int)) b) ((fr : Int) + (p : Int) + (j : Int) + 1) (secs.drop (j + 1)) else (writeS s' ((fr : Int) + (p : Int) + (j : Int)) b, writeE s' ((fr : Int) + (p : Int) + (j : Int)) 64)) = R from by
              have hdrop : secs.drop j = b :: secs.drop (j + 1) := by
                rw [List.drop_eq_getElem_cons (show j < secs.length from by rw [HSN.out]; exact hlt)]
                have : secs[j]'(by rw [HSN.out]; exact hlt) = b := by
                  have h := hbj
                  rw [List.getElem?_eq_getElem (by rw [HSN.out]; exact hlt)] at h
                  exact Option.some.inj h
                rw [this]
              rw [← HW.out, hdrop]; rfl)
            obtain ⟨TT, hTT⟩ : ∃ TT : World → Prop, ∀ W, TT W ↔ (RX w bx Fx gx (m + j + 1) (T :: recBlocks (.slice (some ⟨q, 0, none⟩) nd cq) vs) (writeS s' ((fr : Int) + (p : Int) + (j : Int)) b) W ∧ Blk W T 33 #[.int .i64 (fr : Int), .int .i64 y, .int .i64 (gn : Int)] ∧ Recs W w3.heap.size (.slice (some ⟨q, 0, none⟩) nd cq) secs vs) := ⟨_, fun _ => Iff.rfl⟩
            have HWR := hid (fun W (hW : Below wr.heap.size wr W) => (show Calls Try.prog 28 #[.pointer (some ⟨gx, 0, none⟩), .int .i64 ((fr : Int) + (p : Int) + (j : Int)), .slice (some ⟨qb, 0, none⟩) 64 cb] W fun e W' => e = .returned (.int .i64 (writeE s' ((fr : Int) + (p : Int) + (j : Int)) 64 : Int)) ∧ TT W' from by
              refine ((HX.out.keep hW).call (v := .int .i64 (writeE s' ((fr : Int) + (p : Int) + (j : Int)) 64 : Int)) (s' := writeS s' ((fr : Int) + (p : Int) + (j : Int)) b) (m' := m + j + 1) (fun F hd hF => rWrite_calls bx gx (m + j) F s' W _ _ 64 cb _ b (by omega) hd (HX.out.keep hW).base (by have := HLO.out; omega) (HSB9.out.keep hW) (fun b' off e => by cases e; exact hF _ (List.mem_cons_of_mem _ hmem)))).mono ?_
              rintro e W' ⟨he, hx, hh⟩
              exact ⟨he, (hTT _).2 ⟨hx, hh.blk (HT.out.keep hW) (by simp), recs_held (HR.out.keep hW) hh (fun b' hb' => List.mem_cons_of_mem _ hb')⟩⟩))
            have HTQ := hid hTT
            have HLO2 := hid (show (writeS s' ((fr : Int) + (p : Int) + (j : Int)) b).loose.length ≤ 100000 + (j + 1) from by have := HLO.out; have := write_loose s' ((fr : Int) + (p : Int) + (j : Int)) b; omega)
            have HD0 := hid (fun W (hW : Below wr.heap.size wr W) => (HT.out.keep hW).cell 0 (show _ = some (Value.int .i64 (fr : Int)) from rfl))
            have HDL := hid (fun W (hW : Below wr.heap.size wr W) => (hW.cell (lt_of_cell hcell)).trans hcell)
            have hixr := fun W => run_ix_rows q nd cq j hlt W
            have efp : IntKind.i64.wrap ((fr : Int) + (p : Int)) = (fr : Int) + (p : Int) := by rw [IntWalk.i64_in] <;> omega
            have efj : IntKind.i64.wrap ((fr : Int) + (p : Int) + (j : Int)) = (fr : Int) + (p : Int) + (j : Int) := by rw [IntWalk.i64_in] <;> omega
            have HST2 := hid (StS.start (w1 := wr) (is := 11) (m := 13) (T := TT) (gh := fun _ => ()) (by decide))
            clear hTT HX HT HR HLO HW hob hrow hcell hs9 hmem huj hbj h64 HSB9
            generalize writeS s' ((fr : Int) + (p : Int) + (j : Int)) b = s2 at HTQ HLO2 HN
            generalize writeE s' ((fr : Int) + (p : Int) + (j : Int)) 64 = er at HN HWR
            go_wp2_with fail
            refine wp_region_invG 79 () (lw14Val gx T fr p j q nd cq qb cb er) (StS wr 11 TT) (by kernel_rfl) (by kernel_rfl) (by exact Nat.le_refl 79) ?_ ?_ ?_
            · exact HST2.out
            · intro i o f gh a W hi hf hdep hsame hcl hval hS
              rcases i with _ | _ | _ | _ | _ | _ | _ | _ | _ | _ | _ | _ | _ | i
              all_goals simp only [List.getElem?_cons_succ, List.getElem?_cons_zero, List.getElem?_nil, Option.some.injEq, reduceCtorEq] at hi
              all_goals subst hi
              · have E0 : a.tmps[0]? = some (.pointer (some ⟨gx, 0, none⟩)) := (same_of hsame 0 (by rfl)).trans rfl
                refine g_plain rfl ?_
                exact does_value (w' := W) (v := .pointer (some ⟨gx, 0, none⟩)) (by go_simp) ⟨(), .inr rfl, hS.step 0 (by decide)⟩
              · have E5 : a.tmps[5]? = some (.pointer (some ⟨T, 0, none⟩)) := (same_of hsame 5 (by rfl)).trans rfl
                refine g_plain rfl ?_
                exact does_value (w' := W) (v := .pointer (some ⟨T, 0, none⟩)) (by go_simp) ⟨(), .inr rfl, hS.step 1 (by decide)⟩
              · have E61 := hval 1 _ 61 rfl rfl (dep_of hdep 1 (by rfl))
                unfold lw14Val at E61
                have n4 := not_yet hcl hf 4 (by rfl)
                have n6 := not_yet hcl n4 6 (by rfl)
                have n11 := not_yet hcl n6 11 (by rfl)
                have c1 := HD0.out W (hS.bel n11)
                refine g_plain rfl ?_
                exact does_value (w' := W) (v := .int .i64 (fr : Int)) (by go_simp) ⟨(), .inr rfl, hS.step 2 (by decide)⟩
              · have E2 : a.tmps[2]? = some (.int .i64 (p : Int)) := (same_of hsame 2 (by rfl)).trans rfl
                refine g_plain rfl ?_
                exact does_value (w' := W) (v := .int .i64 (p : Int)) (by go_simp) ⟨(), .inr rfl, hS.step 3 (by decide)⟩
              · have E62 := hval 2 _ 62 rfl rfl (dep_of hdep 2 (by rfl))
                have E63 := hval 3 _ 63 rfl rfl (dep_of hdep 3 (by rfl))
                unfold lw14Val at E62 E63
                refine g_plain rfl ?_
                exact does_value (w' := W) (v := .int .i64 ((fr : Int) + (p : Int))) (by go_simp) ⟨(), .inr rfl, hS.step 4 (by decide)⟩
              · have E12 : a.tmps[12]? = some (.int .i64 (j : Int)) := (same_of hsame 12 (by rfl)).trans rfl
                refine g_plain rfl ?_
                exact does_value (w' := W) (v := .int .i64 (j : Int)) (by go_simp) ⟨(), .inr rfl, hS.step 5 (by decide)⟩
              · have E64 := hval 4 _ 64 rfl rfl (dep_of hdep 4 (by rfl))
                have E65 := hval 5 _ 65 rfl rfl (dep_of hdep 5 (by rfl))
                unfold lw14Val at E64 E65
                refine g_plain rfl ?_
                exact does_value (w' := W) (v := .int .i64 ((fr : Int) + (p : Int) + (j : Int))) (by go_simp) ⟨(), .inr rfl, hS.step 6 (by decide)⟩
              · have E11 : a.tmps[11]? = some (.slice (some ⟨q, 0, none⟩) nd cq) := (same_of hsame 11 (by rfl)).trans rfl
                refine g_plain rfl ?_
                exact does_value (w' := W) (v := .slice (some ⟨q, 0, none⟩) nd cq) (by go_simp) ⟨(), .inr rfl, hS.step 7 (by decide)⟩
              · have E12 : a.tmps[12]? = some (.int .i64 (j : Int)) := (same_of hsame 12 (by rfl)).trans rfl
                refine g_plain rfl ?_
                exact does_value (w' := W) (v := .int .i64 (j : Int)) (by go_simp) ⟨(), .inr rfl, hS.step 8 (by decide)⟩
              · have E67 := hval 7 _ 67 rfl rfl (dep_of hdep 7 (by rfl))
                have E68 := hval 8 _ 68 rfl rfl (dep_of hdep 8 (by rfl))
                unfold lw14Val at E67 E68
                refine g_plain rfl ?_
                exact does_value (w' := W) (v := .pointer (some ⟨q, j, none⟩)) (by go_simp) ⟨(), .inr rfl, hS.step 9 (by decide)⟩
              · have E69 := hval 9 _ 69 rfl rfl (dep_of hdep 9 (by rfl))
                unfold lw14Val at E69
                have n11 := not_yet hcl hf 11 (by rfl)
                have c1 := HDL.out W (hS.bel n11)
                refine g_plain rfl ?_
                exact does_value (w' := W) (v := .slice (some ⟨qb, 0, none⟩) 64 cb) (by go_simp) ⟨(), .inr rfl, hS.step 10 (by decide)⟩
              · have E60 := hval 0 _ 60 rfl rfl (dep_of hdep 0 (by rfl))
                have E66 := hval 6 _ 66 rfl rfl (dep_of hdep 6 (by rfl))
                have E70 := hval 10 _ 70 rfl rfl (dep_of hdep 10 (by rfl))
                unfold lw14Val at E60 E66 E70
                refine g_plain rfl ?_
                refine does_call 28 #[.pointer (some ⟨gx, 0, none⟩), .int .i64 ((fr : Int) + (p : Int) + (j : Int)), .slice (some ⟨qb, 0, none⟩) 64 cb] (by go_simp) ((HWR.out W (hS.bel hf)).mono ?_)
                rintro _ W' ⟨rfl, ht⟩
                exact ⟨_, rfl, (), .inr rfl, hS.put ht⟩
              · have E71 := hval 11 _ 71 rfl rfl (dep_of hdep 11 (by rfl))
                unfold lw14Val at E71
                refine g_plain rfl ?_
                exact does_value (w' := W) (v := .int .i64 (er : Int)) (by go_simp) ⟨(), .inr rfl, hS.step 12 (by decide)⟩
            · intro gh w5 hS
              obtain ⟨hx5, ht5, hr5⟩ := (HTQ.out w5).1 (hS.up rfl)
              have HX5 := hid hx5; have HT5 := hid ht5; have HR5 := hid hr5
              clear hS HST2 HTQ HWR HD0 HDL hx5 ht5 hr5
              simp only [putAll, lw14Val, Nat.reduceAdd, Nat.zero_add, Act.put, List.setIfInBounds_toArray, List.set_cons_zero, List.set_cons_succ]
              clear efp efj
              by_cases her : er = 0
              · subst her
                have HN2 := hid (show writesS s2 ((fr : Int) + (p : Int) + (((j + 1 : Nat)) : Int)) (secs.drop (j + 1)) = R from by
                  have := HN.out
                  rw [if_pos rfl] at this
                  rw [← this]; congr 1)
                clear HN
                go_wp2_with fail
                go_roundw
                case rel => exact ⟨j + 1, s2, by omega, by go_num, HX5, HT5, HR5, HLO2, HN2⟩
                case measure => simp [intOf]; omega
              · have HRX := hid (show RR = (s2, 0, er) from by
                  have h9 := HN.out
                  rw [if_neg her] at h9
                  rw [HRW.out, ← h9, if_neg her])
                have q3 : (((er : Int)) != 0) = true := by simp; omega
                clear HN
                go_wp2_with fail
                go_ret2
                rw [HRX.out]
                exact HX5.out.post (by omega) _
          · obtain rfl : j = nd := by omega
            have q2 : ¬ (j : Int) < (j : Int) := by omega
            have HRX := hid (show RR = (s', (p : Int) + (j : Int), 0) from by
              have h9 := HW.out
              rw [List.drop_of_length_le (by rw [HSN.out]; exact Nat.le_refl _)] at h9
              rw [HRW.out, ← h9]; rfl)
            go_wp2_with fail
            go_ret2
            rw [HRX.out]
            exact HX.out.post (by omega) _
  · have HRX := hid (show RR = (s, 0, checkE s.n ⟨x, y, z⟩) from by rw [← HRR.out]; unfold logWR; rw [if_neg hC])
    clear HRR
    generalize checkE s.n ⟨x, y, z⟩ = ce at HCK hC HRX
    have q1 : (((ce : Int)) != 0) = true := by simp; omega
    go_enter Try.func18, Try.ntmps18
    go_wp2_with fail
    have HX1 := hid (HX.out.keep HB1.out)
    generalize w.alloc (.cells #[.int .i64 x, .int .i64 y, .int .i64 z] 33) = w1 at HB1 HX1 ⊢
    generalize w.heap.size = T
    refine (HCK.out w1 HB1.out).mono ?_
    rintro _ w2 ⟨rfl, hb2⟩
    have HX2 := hid (HX1.out.keep hb2)
    clear hb2 HCK HX HX1 HB1 HTB
    go_wp2_with fail
    go_ret2
    rw [HRX.out]
    exact HX2.out.post (by omega) _
end
end Go.Proofs.Ytiejndkchcljdaa
/- Contracts: right and Scan of the plain reference's log. Written by tools/mklg.py out of XLgRfR.tpl. -/
namespace Go.Proofs.Ytiejndkchcljdaa
open Go.RowKit

/-- what right tells of a sector -/
def rightV (gen idx q c : Nat) (s : List UInt8) : Value := if validB gen idx s = true then .tuple #[.int .i64 (kindL s : Int), .slice (some ⟨q, 14, none⟩) (sizeL s) (c - 14)] else .tuple #[.int .i64 0, .slice none 0 0]
/-- a sector is made, and compared -/
structure RgS (w1 : World) (sec : List UInt8) (f : Nat → Bool) (gh : Nat → Value) (W : World) : Prop where
  bel : Below w1.heap.size w1 W
  a : f 7 = true → Own W w1.heap.size 5 (gh 7) 64 sec
section
variable {w1 W W' : World} {sec : List UInt8} {f : Nat → Bool} {gh : Nat → Value}
theorem RgS.start (w1 : World) (sec : List UInt8) : RgS w1 sec (fun j => decide (12 ≤ j)) (fun _ => .pointer none) w1.drew := ⟨(Below.refl _ _).drew, fun h => by simp at h⟩
theorem RgS.step (h : RgS w1 sec f gh W) (j : Nat) (v : Value) (h7 : 7 ≠ j) : RgS w1 sec (upd f j) (updN gh j v) W := ⟨h.bel, fun e => by rw [apN_ne h7]; exact h.a (by rwa [ap_ne h7] at e)⟩
theorem RgS.s7 (h : RgS w1 sec f gh W) {v : Value} (ho : Own W' W.heap.size 5 v 64 sec) (hb : Below W.heap.size W W') : RgS w1 sec (upd f 7) (updN gh 7 v) W' := ⟨h.bel.trans (hb.mono h.bel.size), fun _ => by rw [apN_eq]; exact ho.lower h.bel.size⟩
end
def rg1Val (q : Nat) (c : Nat) (k : Nat) (z : Nat) : Nat → Unit → Value
  | 0, _ => .slice (some ⟨q, 0, none⟩) 64 c
  | 1, _ => .pointer (some ⟨q, 12, none⟩)
  | 2, _ => .int .u8 (k : Int)
  | 3, _ => .int .i64 (k : Int)
  | 4, _ => .slice (some ⟨q, 0, none⟩) 64 c
  | 5, _ => .pointer (some ⟨q, 13, none⟩)
  | 6, _ => .int .u8 (z : Int)
  | 7, _ => .int .i64 (z : Int)
  | 8, _ => .int .i64 (k : Int)
  | 9, _ => .int .i64 (z : Int)
  | _, _ => undef
def rg4Val (q : Nat) (c : Nat) (gen : Nat) (idx : Nat) (k : Nat) (z : Nat) (st1 : ByteArray) (st2 : ByteArray) (eqv : Bool) : Nat → Value → Value
  | 0, _ => .int .i64 (gen : Int)
  | 1, _ => .int .i64 (idx : Int)
  | 2, _ => .int .i64 (k : Int)
  | 3, _ => .slice (some ⟨q, 0, none⟩) 64 c
  | 4, _ => .int .i64 (z : Int)
  | 5, _ => .int .i64 (14 + (z : Int))
  | 6, _ => .slice (some ⟨q, 14, none⟩) z (c - 14)
  | 7, k => k
  | 8, _ => .string st1
  | 9, _ => .slice (some ⟨q, 0, none⟩) 64 c
  | 10, _ => .string st2
  | 11, _ => .bool (!eqv)
  | _, _ => undef
def rg6Val (q : Nat) (c : Nat) (k : Nat) (z : Nat) : Nat → Unit → Value
  | 0, _ => .int .i64 (k : Int)
  | 1, _ => .slice (some ⟨q, 0, none⟩) 64 c
  | 2, _ => .int .i64 (z : Int)
  | 3, _ => .int .i64 (14 + (z : Int))
  | 4, _ => .slice (some ⟨q, 14, none⟩) z (c - 14)
  | 5, _ => .int .i64 (k : Int)
  | 6, _ => .slice (some ⟨q, 14, none⟩) z (c - 14)
  | _, _ => undef
set_option maxHeartbeats 2000000 in
set_option maxRecDepth 20000 in
theorem rRight_calls (gen idx q c B : Nat) (s : List UInt8) (w : World) (hs : SB w B (some ⟨q, 0, none⟩) 64 s) (hc : 64 ≤ c) :
    Calls Try.prog 68 #[.slice (some ⟨q, 0, none⟩) 64 c, .int .i64 (gen : Int), .int .i64 (idx : Int)] w fun e w' => e = .returned (rightV gen idx q c s) ∧ Below w.heap.size w w' := by
  have HS := hid hs.fit
  have h64 := hs.1
  have c12 : w.cell? ⟨q, 12, none⟩ = some (.int .u8 (kindL s : Int)) := by
    obtain ⟨b, off, x, e, -, hx, hcl⟩ := hs.at_ (show 12 < 64 by omega)
    cases e
    rw [Nat.zero_add] at hcl
    rw [hcl]; unfold kindL; rw [hx]; rfl
  have c13 : w.cell? ⟨q, 13, none⟩ = some (.int .u8 (sizeL s : Int)) := by
    obtain ⟨b, off, x, e, -, hx, hcl⟩ := hs.at_ (show 13 < 64 by omega)
    cases e
    rw [Nat.zero_add] at hcl
    rw [hcl]; unfold sizeL; rw [hx]; rfl
  have hk256 : kindL s < 256 := by unfold kindL; exact UInt8.toNat_lt _
  have hn256 : sizeL s < 256 := by unfold sizeL; exact UInt8.toNat_lt _
  have HC12 := hid (fun W (hW : Below w.heap.size w W) => (hW.cell (lt_of_cell c12)).trans c12)
  have HC13 := hid (fun W (hW : Below w.heap.size w W) => (hW.cell (lt_of_cell c13)).trans c13)
  have HV := hid (show validB gen idx s = (allowsB (kindL s) (sizeL s) && s == secL gen idx (kindL s) (partL s)) from rfl)
  have HP := hid (show partL s = (s.drop 14).take (sizeL s) from rfl)
  have HRV := hid (show rightV gen idx q c s = if validB gen idx s = true then .tuple #[.int .i64 (kindL s : Int), .slice (some ⟨q, 14, none⟩) (sizeL s) (c - 14)] else .tuple #[.int .i64 0, .slice none 0 0] from rfl)
  clear hs c12 c13
  generalize rightV gen idx q c s = RV at HRV ⊢
  generalize kindL s = k at *
  generalize sizeL s = z at *
  have hwk : IntKind.i64.wrap (k : Int) = (k : Int) := by rw [IntWalk.i64_in] <;> omega
  have hwz : IntKind.i64.wrap (z : Int) = (z : Int) := by rw [IntWalk.i64_in] <;> omega
  have hw14 : IntKind.i64.wrap (14 + (z : Int)) = 14 + (z : Int) := by rw [IntWalk.i64_in] <;> omega
  have HST := hid (show CkS w (fun j => decide (10 ≤ j)) (fun _ => ()) w.drew from (Below.refl _ _).drew)
  go_enter Try.func68, Try.ntmps68
  go_wp2_with fail
  refine wp_region_invG 65 () (rg1Val q c k z) (CkS w) (by kernel_rfl) (by kernel_rfl) (by exact Nat.le_refl 65) ?_ ?_ ?_
  · exact HST.out
  · intro i o f gh a W hi hf hdep hsame hcl hval hS
    rcases i with _ | _ | _ | _ | _ | _ | _ | _ | _ | _ | i
    all_goals simp only [List.getElem?_cons_succ, List.getElem?_cons_zero, List.getElem?_nil, Option.some.injEq, reduceCtorEq] at hi
    all_goals subst hi
    · have E0 : a.tmps[0]? = some (.slice (some ⟨q, 0, none⟩) 64 c) := (same_of hsame 0 (by rfl)).trans rfl
      refine g_plain rfl ?_
      exact does_value (w' := W) (v := .slice (some ⟨q, 0, none⟩) 64 c) (by go_simp) ⟨(), .inr rfl, hS⟩
    · have E10 := hval 0 _ 10 rfl rfl (dep_of hdep 0 (by rfl))
      unfold rg1Val at E10
      refine g_plain rfl ?_
      exact does_value (w' := W) (v := .pointer (some ⟨q, 12, none⟩)) (by go_simp) ⟨(), .inr rfl, hS⟩
    · have E11 := hval 1 _ 11 rfl rfl (dep_of hdep 1 (by rfl))
      unfold rg1Val at E11
      have c1 := HC12.out W hS
      refine g_plain rfl ?_
      exact does_value (w' := W) (v := .int .u8 (k : Int)) (by go_simp) ⟨(), .inr rfl, hS⟩
    · have E12 := hval 2 _ 12 rfl rfl (dep_of hdep 2 (by rfl))
      unfold rg1Val at E12
      refine g_plain rfl ?_
      exact does_value (w' := W) (v := .int .i64 (k : Int)) (by go_simp) ⟨(), .inr rfl, hS⟩
    · have E0 : a.tmps[0]? = some (.slice (some ⟨q, 0, none⟩) 64 c) := (same_of hsame 0 (by rfl)).trans rfl
      refine g_plain rfl ?_
      exact does_value (w' := W) (v := .slice (some ⟨q, 0, none⟩) 64 c) (by go_simp) ⟨(), .inr rfl, hS⟩
    · have E14 := hval 4 _ 14 rfl rfl (dep_of hdep 4 (by rfl))
      unfold rg1Val at E14
      refine g_plain rfl ?_
      exact does_value (w' := W) (v := .pointer (some ⟨q, 13, none⟩)) (by go_simp) ⟨(), .inr rfl, hS⟩
    · have E15 := hval 5 _ 15 rfl rfl (dep_of hdep 5 (by rfl))
      unfold rg1Val at E15
      have c1 := HC13.out W hS
      refine g_plain rfl ?_
      exact does_value (w' := W) (v := .int .u8 (z : Int)) (by go_simp) ⟨(), .inr rfl, hS⟩
    · have E16 := hval 6 _ 16 rfl rfl (dep_of hdep 6 (by rfl))
      unfold rg1Val at E16
      refine g_plain rfl ?_
      exact does_value (w' := W) (v := .int .i64 (z : Int)) (by go_simp) ⟨(), .inr rfl, hS⟩
    · have E13 := hval 3 _ 13 rfl rfl (dep_of hdep 3 (by rfl))
      unfold rg1Val at E13
      refine g_plain rfl ?_
      exact does_value (w' := W) (v := .int .i64 (k : Int)) (by go_simp) ⟨(), .inr rfl, hS⟩
    · have E17 := hval 7 _ 17 rfl rfl (dep_of hdep 7 (by rfl))
      unfold rg1Val at E17
      refine g_plain rfl ?_
      exact does_value (w' := W) (v := .int .i64 (z : Int)) (by go_simp) ⟨(), .inr rfl, hS⟩
  · intro gh w1 hS
    have HB1 := hid (show Below w.heap.size w w1 from hS)
    have HS1 := hid (HS.out.keep HB1.out)
    clear hS HST HC12 HC13 HS
    simp only [putAll, rg1Val, Nat.reduceAdd, Nat.zero_add, Act.put, List.setIfInBounds_toArray, List.set_cons_zero, List.set_cons_succ]
    by_cases hal : allowsB k z = true
    · have hz49 := allows_size hal
      have hpl : (partL s).length = z := by rw [HP.out, List.length_take, List.length_drop]; omega
      have HSP := hid (show SB w1 w1.heap.size (some ⟨q, 14, none⟩) z (partL s) from by
        have h0 := (HS1.out.drop (k := 14) (c := c) (by omega) (by omega)).take z (by omega)
        rw [if_neg (by omega), Option.map_some, Addr.add_lit, Nat.zero_add, ← HP.out] at h0
        exact h0.fit)
      have HSEC := hid (fun W (hW : Below w1.heap.size w1 W) => rSector_calls gen idx k z _ (c - 14) _ (partL s) W (HSP.out.keep hW) hz49 hk256)
      have HSS := hid (fun W (hW : Below w1.heap.size w1 W) => run_str (P := Try.prog) (HS1.out.fit.keep hW) c 34 9 5 Try.underlying34 Try.underlying5 Try.underlying9)
      have HSC := hid (fun (W : World) A7 c7 (h : SB W W.heap.size A7 64 (secL gen idx k (partL s))) => run_str (P := Try.prog) h c7 34 9 5 Try.underlying34 Try.underlying5 Try.underlying9)
      have hcmp := strB_eq (secL gen idx k (partL s)) s
      have HVV := hid (show validB gen idx s = (secL gen idx k (partL s) == s) from by rw [HV.out, hal, Bool.true_and]; rw [Bool.eq_iff_iff, beq_iff_eq, beq_iff_eq]; exact ⟨fun h => h.symm, fun h => h.symm⟩)
      rw [HVV.out] at HRV
      have HST2 := hid (RgS.start w1 (secL gen idx k (partL s)))
      generalize secL gen idx k (partL s) = sec at hcmp HRV HST2 HSEC HSC HVV
      have HAL := hid hal
      clear HSP HV HVV HP hpl
      have hmx : (14 : Int) ≤ max (14 + (z : Int)) 0 := by omega
      have hsz : (14 + (z : Int)).toNat - 14 = z := by omega
      have h0z : (0 : Int) ≤ 14 + (z : Int) := by omega
      have hzc : 14 + (z : Int) ≤ (c : Int) := by omega
      have hc14 : ¬ c = 14 := by omega
      generalize strB sec = st1 at hcmp HSC
      generalize strB s = st2 at hcmp HSS
      generalize (sec == s) = eqv at hcmp HRV
      by_cases tk : k = 1
      · have p1 : ¬ (k : Int) < 1 := by omega
        have p2 : ¬ (4 : Int) < (k : Int) := by omega
        have p3 : ¬ (49 : Int) < (z : Int) := by omega
        have q1 : ((k : Int) == 2) = false := by simp; omega
        have q2 : ((k : Int) == 3) = false := by simp; omega
        have q3 : ((k : Int) == 4) = false := by simp; omega
        have TK := hid tk
        clear tk
        go_wp2_with fail
        refine wp_region_invG 65 (.pointer none) (rg4Val q c gen idx k z st1 st2 eqv) (RgS w1 sec) (by kernel_rfl) (by kernel_rfl) (by exact Nat.le_refl 65) ?_ ?_ ?_
        · exact HST2.out
        · intro i o f gh a W hi hf hdep hsame hcl hval hS
          rcases i with _ | _ | _ | _ | _ | _ | _ | _ | _ | _ | _ | _ | i
          all_goals simp only [List.getElem?_cons_succ, List.getElem?_cons_zero, List.getElem?_nil, Option.some.injEq, reduceCtorEq] at hi
          all_goals subst hi
          · have E1 : a.tmps[1]? = some (.int .i64 (gen : Int)) := (same_of hsame 1 (by rfl)).trans rfl
            refine g_plain rfl ?_
            exact does_value (w' := W) (v := .int .i64 (gen : Int)) (by go_simp) ⟨.pointer none, .inr rfl, hS.step 0 (.pointer none) (by decide)⟩
          · have E2 : a.tmps[2]? = some (.int .i64 (idx : Int)) := (same_of hsame 2 (by rfl)).trans rfl
            refine g_plain rfl ?_
            exact does_value (w' := W) (v := .int .i64 (idx : Int)) (by go_simp) ⟨.pointer none, .inr rfl, hS.step 1 (.pointer none) (by decide)⟩
          · have E8 : a.tmps[8]? = some (.int .i64 (k : Int)) := (same_of hsame 8 (by rfl)).trans rfl
            refine g_plain rfl ?_
            exact does_value (w' := W) (v := .int .i64 (k : Int)) (by go_simp) ⟨.pointer none, .inr rfl, hS.step 2 (.pointer none) (by decide)⟩
          · have E0 : a.tmps[0]? = some (.slice (some ⟨q, 0, none⟩) 64 c) := (same_of hsame 0 (by rfl)).trans rfl
            refine g_plain rfl ?_
            exact does_value (w' := W) (v := .slice (some ⟨q, 0, none⟩) 64 c) (by go_simp) ⟨.pointer none, .inr rfl, hS.step 3 (.pointer none) (by decide)⟩
          · have E9 : a.tmps[9]? = some (.int .i64 (z : Int)) := (same_of hsame 9 (by rfl)).trans rfl
            refine g_plain rfl ?_
            exact does_value (w' := W) (v := .int .i64 (z : Int)) (by go_simp) ⟨.pointer none, .inr rfl, hS.step 4 (.pointer none) (by decide)⟩
          · have E52 := hval 4 _ 52 rfl rfl (dep_of hdep 4 (by rfl))
            unfold rg4Val at E52
            refine g_plain rfl ?_
            exact does_value (w' := W) (v := .int .i64 (14 + (z : Int))) (by go_simp) ⟨.pointer none, .inr rfl, hS.step 5 (.pointer none) (by decide)⟩
          · have E51 := hval 3 _ 51 rfl rfl (dep_of hdep 3 (by rfl))
            have E53 := hval 5 _ 53 rfl rfl (dep_of hdep 5 (by rfl))
            unfold rg4Val at E51 E53
            refine g_plain rfl ?_
            exact does_value (w' := W) (v := .slice (some ⟨q, 14, none⟩) z (c - 14)) (by go_simp) ⟨.pointer none, .inr rfl, hS.step 6 (.pointer none) (by decide)⟩
          · have E48 := hval 0 _ 48 rfl rfl (dep_of hdep 0 (by rfl))
            have E49 := hval 1 _ 49 rfl rfl (dep_of hdep 1 (by rfl))
            have E50 := hval 2 _ 50 rfl rfl (dep_of hdep 2 (by rfl))
            have E54 := hval 6 _ 54 rfl rfl (dep_of hdep 6 (by rfl))
            unfold rg4Val at E48 E49 E50 E54
            refine g_plain rfl ?_
            refine does_call 77 #[.int .i64 (gen : Int), .int .i64 (idx : Int), .int .i64 (k : Int), .slice (some ⟨q, 14, none⟩) z (c - 14)] (by go_simp) ((HSEC.out W hS.bel).mono ?_)
            rintro _ W' ⟨v, rfl, ho, hb⟩
            exact ⟨v, rfl, v, .inr rfl, hS.s7 ho hb⟩
          · have E55 := hval 7 _ 55 rfl rfl (dep_of hdep 7 (by rfl))
            unfold rg4Val at E55
            refine g_plain rfl ?_
            obtain ⟨A7, c7, e7, -, hs7, -⟩ := (hS.a (dep_of hdep 7 (by rfl))).sb
            rw [e7] at E55
            have hstr := HSC.out W A7 c7 hs7
            exact does_value (w' := W) (v := .string st1) (by go_simp) ⟨.pointer none, .inr rfl, hS.step 8 (.pointer none) (by decide)⟩
          · have E0 : a.tmps[0]? = some (.slice (some ⟨q, 0, none⟩) 64 c) := (same_of hsame 0 (by rfl)).trans rfl
            refine g_plain rfl ?_
            exact does_value (w' := W) (v := .slice (some ⟨q, 0, none⟩) 64 c) (by go_simp) ⟨.pointer none, .inr rfl, hS.step 9 (.pointer none) (by decide)⟩
          · have E57 := hval 9 _ 57 rfl rfl (dep_of hdep 9 (by rfl))
            unfold rg4Val at E57
            have hstr := HSS.out W hS.bel
            refine g_plain rfl ?_
            exact does_value (w' := W) (v := .string st2) (by go_simp) ⟨.pointer none, .inr rfl, hS.step 10 (.pointer none) (by decide)⟩
          · have E56 := hval 8 _ 56 rfl rfl (dep_of hdep 8 (by rfl))
            have E58 := hval 10 _ 58 rfl rfl (dep_of hdep 10 (by rfl))
            unfold rg4Val at E56 E58
            refine g_plain rfl ?_
            exact does_value (w' := W) (v := .bool (!eqv)) (by go_simp) ⟨.pointer none, .inr rfl, hS.step 11 (.pointer none) (by decide)⟩
        · intro gh w8 hS
          have HB8 := hid hS.bel
          clear hS HST2 HSEC HSS HSC
          simp only [putAll, rg4Val, Nat.reduceAdd, Nat.zero_add, Act.put, List.setIfInBounds_toArray, List.set_cons_zero, List.set_cons_succ]
          cases eqv with
          | false =>
            have HRX := hid (show RV = .tuple #[.int .i64 0, .slice none 0 0] from HRV.out)
            go_wp2_with fail
            go_ret2
            exact ⟨by rw [HRX.out]; rfl, HB1.out.trans (HB8.out.mono HB1.out.size)⟩
          | true =>
            have HRX := hid (show RV = .tuple #[.int .i64 (k : Int), .slice (some ⟨q, 14, none⟩) z (c - 14)] from HRV.out)
            have HST3 := hid (show CkS w8 (fun j => decide (7 ≤ j)) (fun _ => ()) w8.drew from (Below.refl _ _).drew)
            go_wp2_with fail
            refine wp_region_invG 65 () (rg6Val q c k z) (CkS w8) (by kernel_rfl) (by kernel_rfl) (by exact Nat.le_refl 65) ?_ ?_ ?_
            · exact HST3.out
            · intro i o f gh a W hi hf hdep hsame hcl hval hS
              rcases i with _ | _ | _ | _ | _ | _ | _ | i
              all_goals simp only [List.getElem?_cons_succ, List.getElem?_cons_zero, List.getElem?_nil, Option.some.injEq, reduceCtorEq] at hi
              all_goals subst hi
              · have E8 : a.tmps[8]? = some (.int .i64 (k : Int)) := (same_of hsame 8 (by rfl)).trans rfl
                refine g_plain rfl ?_
                exact does_value (w' := W) (v := .int .i64 (k : Int)) (by go_simp) ⟨(), .inr rfl, hS⟩
              · have E0 : a.tmps[0]? = some (.slice (some ⟨q, 0, none⟩) 64 c) := (same_of hsame 0 (by rfl)).trans rfl
                refine g_plain rfl ?_
                exact does_value (w' := W) (v := .slice (some ⟨q, 0, none⟩) 64 c) (by go_simp) ⟨(), .inr rfl, hS⟩
              · have E9 : a.tmps[9]? = some (.int .i64 (z : Int)) := (same_of hsame 9 (by rfl)).trans rfl
                refine g_plain rfl ?_
                exact does_value (w' := W) (v := .int .i64 (z : Int)) (by go_simp) ⟨(), .inr rfl, hS⟩
              · have E62 := hval 2 _ 62 rfl rfl (dep_of hdep 2 (by rfl))
                unfold rg6Val at E62
                refine g_plain rfl ?_
                exact does_value (w' := W) (v := .int .i64 (14 + (z : Int))) (by go_simp) ⟨(), .inr rfl, hS⟩
              · have E61 := hval 1 _ 61 rfl rfl (dep_of hdep 1 (by rfl))
                have E63 := hval 3 _ 63 rfl rfl (dep_of hdep 3 (by rfl))
                unfold rg6Val at E61 E63
                refine g_plain rfl ?_
                exact does_value (w' := W) (v := .slice (some ⟨q, 14, none⟩) z (c - 14)) (by go_simp) ⟨(), .inr rfl, hS⟩
              · have E60 := hval 0 _ 60 rfl rfl (dep_of hdep 0 (by rfl))
                unfold rg6Val at E60
                refine g_plain rfl ?_
                exact does_value (w' := W) (v := .int .i64 (k : Int)) (by go_simp) ⟨(), .inr rfl, hS⟩
              · have E64 := hval 4 _ 64 rfl rfl (dep_of hdep 4 (by rfl))
                unfold rg6Val at E64
                refine g_plain rfl ?_
                exact does_value (w' := W) (v := .slice (some ⟨q, 14, none⟩) z (c - 14)) (by go_simp) ⟨(), .inr rfl, hS⟩
            · intro gh2 w9 hS
              have HB9 := hid (show Below w8.heap.size w8 w9 from hS)
              clear hS HST3
              simp only [putAll, rg6Val, Nat.reduceAdd, Nat.zero_add, Act.put, List.setIfInBounds_toArray, List.set_cons_zero, List.set_cons_succ]
              go_wp2_with fail
              go_ret2
              exact ⟨by rw [HRX.out]; rfl, (HB1.out.trans (HB8.out.mono HB1.out.size)).trans (HB9.out.mono (Nat.le_trans HB1.out.size HB8.out.size))⟩
      by_cases tk : k = 2
      · have p1 : ¬ (k : Int) < 1 := by omega
        have p2 : ¬ (4 : Int) < (k : Int) := by omega
        have p3 : ¬ (49 : Int) < (z : Int) := by omega
        have HAL49 : z = 49 := by
          have h := HAL.out
          unfold allowsB at h
          rw [if_neg (by omega), if_pos (by omega)] at h
          exact of_decide_eq_true h
        have q1 : ((k : Int) == 2) = true := by simp [tk]
        have q4 : ((z : Int) != 49) = false := by rw [HAL49]; rfl
        have q3 : ((k : Int) == 4) = false := by simp; omega
        have q5 : ((k : Int) == 3) = false := by simp; omega
        have TK := hid tk
        clear tk HAL49
        go_wp2_with fail
        refine wp_region_invG 65 (.pointer none) (rg4Val q c gen idx k z st1 st2 eqv) (RgS w1 sec) (by kernel_rfl) (by kernel_rfl) (by exact Nat.le_refl 65) ?_ ?_ ?_
        · exact HST2.out
        · intro i o f gh a W hi hf hdep hsame hcl hval hS
          rcases i with _ | _ | _ | _ | _ | _ | _ | _ | _ | _ | _ | _ | i
          all_goals simp only [List.getElem?_cons_succ, List.getElem?_cons_zero, List.getElem?_nil, Option.some.injEq, reduceCtorEq] at hi
          all_goals subst hi
          · have E1 : a.tmps[1]? = some (.int .i64 (gen : Int)) := (same_of hsame 1 (by rfl)).trans rfl
            refine g_plain rfl ?_
            exact does_value (w' := W) (v := .int .i64 (gen : Int)) (by go_simp) ⟨.pointer none, .inr rfl, hS.step 0 (.pointer none) (by decide)⟩
          · have E2 : a.tmps[2]? = some (.int .i64 (idx : Int)) := (same_of hsame 2 (by rfl)).trans rfl
            refine g_plain rfl ?_
            exact does_value (w' := W) (v := .int .i64 (idx : Int)) (by go_simp) ⟨.pointer none, .inr rfl, hS.step 1 (.pointer none) (by decide)⟩
          · have E8 : a.tmps[8]? = some (.int .i64 (k : Int)) := (same_of hsame 8 (by rfl)).trans rfl
            refine g_plain rfl ?_
            exact does_value (w' := W) (v := .int .i64 (k : Int)) (by go_simp) ⟨.pointer none, .inr rfl, hS.step 2 (.pointer none) (by decide)⟩
          · have E0 : a.tmps[0]? = some (.slice (some ⟨q, 0, none⟩) 64 c) := (same_of hsame 0 (by rfl)).trans rfl
            refine g_plain rfl ?_
            exact does_value (w' := W) (v := .slice (some ⟨q, 0, none⟩) 64 c) (by go_simp) ⟨.pointer none, .inr rfl, hS.step 3 (.pointer none) (by decide)⟩
          · have E9 : a.tmps[9]? = some (.int .i64 (z : Int)) := (same_of hsame 9 (by rfl)).trans rfl
            refine g_plain rfl ?_
            exact does_value (w' := W) (v := .int .i64 (z : Int)) (by go_simp) ⟨.pointer none, .inr rfl, hS.step 4 (.pointer none) (by decide)⟩
          · have E52 := hval 4 _ 52 rfl rfl (dep_of hdep 4 (by rfl))
            unfold rg4Val at E52
            refine g_plain rfl ?_
            exact does_value (w' := W) (v := .int .i64 (14 + (z : Int))) (by go_simp) ⟨.pointer none, .inr rfl, hS.step 5 (.pointer none) (by decide)⟩
          · have E51 := hval 3 _ 51 rfl rfl (dep_of hdep 3 (by rfl))
            have E53 := hval 5 _ 53 rfl rfl (dep_of hdep 5 (by rfl))
            unfold rg4Val at E51 E53
            refine g_plain rfl ?_
            exact does_value (w' := W) (v := .slice (some ⟨q, 14, none⟩) z (c - 14)) (by go_simp) ⟨.pointer none, .inr rfl, hS.step 6 (.pointer none) (by decide)⟩
          · have E48 := hval 0 _ 48 rfl rfl (dep_of hdep 0 (by rfl))
            have E49 := hval 1 _ 49 rfl rfl (dep_of hdep 1 (by rfl))
            have E50 := hval 2 _ 50 rfl rfl (dep_of hdep 2 (by rfl))
            have E54 := hval 6 _ 54 rfl rfl (dep_of hdep 6 (by rfl))
            unfold rg4Val at E48 E49 E50 E54
            refine g_plain rfl ?_
            refine does_call 77 #[.int .i64 (gen : Int), .int .i64 (idx : Int), .int .i64 (k : Int), .slice (some ⟨q, 14, none⟩) z (c - 14)] (by go_simp) ((HSEC.out W hS.bel).mono ?_)
            rintro _ W' ⟨v, rfl, ho, hb⟩
            exact ⟨v, rfl, v, .inr rfl, hS.s7 ho hb⟩
          · have E55 := hval 7 _ 55 rfl rfl (dep_of hdep 7 (by rfl))
            unfold rg4Val at E55
            refine g_plain rfl ?_
            obtain ⟨A7, c7, e7, -, hs7, -⟩ := (hS.a (dep_of hdep 7 (by rfl))).sb
            rw [e7] at E55
            have hstr := HSC.out W A7 c7 hs7
            exact does_value (w' := W) (v := .string st1) (by go_simp) ⟨.pointer none, .inr rfl, hS.step 8 (.pointer none) (by decide)⟩
          · have E0 : a.tmps[0]? = some (.slice (some ⟨q, 0, none⟩) 64 c) := (same_of hsame 0 (by rfl)).trans rfl
            refine g_plain rfl ?_
            exact does_value (w' := W) (v := .slice (some ⟨q, 0, none⟩) 64 c) (by go_simp) ⟨.pointer none, .inr rfl, hS.step 9 (.pointer none) (by decide)⟩
          · have E57 := hval 9 _ 57 rfl rfl (dep_of hdep 9 (by rfl))
            unfold rg4Val at E57
            have hstr := HSS.out W hS.bel
            refine g_plain rfl ?_
            exact does_value (w' := W) (v := .string st2) (by go_simp) ⟨.pointer none, .inr rfl, hS.step 10 (.pointer none) (by decide)⟩
          · have E56 := hval 8 _ 56 rfl rfl (dep_of hdep 8 (by rfl))
            have E58 := hval 10 _ 58 rfl rfl (dep_of hdep 10 (by rfl))
            unfold rg4Val at E56 E58
            refine g_plain rfl ?_
            exact does_value (w' := W) (v := .bool (!eqv)) (by go_simp) ⟨.pointer none, .inr rfl, hS.step 11 (.pointer none) (by decide)⟩
        · intro gh w8 hS
          have HB8 := hid hS.bel
          clear hS HST2 HSEC HSS HSC
          simp only [putAll, rg4Val, Nat.reduceAdd, Nat.zero_add, Act.put, List.setIfInBounds_toArray, List.set_cons_zero, List.set_cons_succ]
          cases eqv with
          | false =>
            have HRX := hid (show RV = .tuple #[.int .i64 0, .slice none 0 0] from HRV.out)
            go_wp2_with fail
            go_ret2
            exact ⟨by rw [HRX.out]; rfl, HB1.out.trans (HB8.out.mono HB1.out.size)⟩
          | true =>
            have HRX := hid (show RV = .tuple #[.int .i64 (k : Int), .slice (some ⟨q, 14, none⟩) z (c - 14)] from HRV.out)
            have HST3 := hid (show CkS w8 (fun j => decide (7 ≤ j)) (fun _ => ()) w8.drew from (Below.refl _ _).drew)
            go_wp2_with fail
            refine wp_region_invG 65 () (rg6Val q c k z) (CkS w8) (by kernel_rfl) (by kernel_rfl) (by exact Nat.le_refl 65) ?_ ?_ ?_
            · exact HST3.out
            · intro i o f gh a W hi hf hdep hsame hcl hval hS
              rcases i with _ | _ | _ | _ | _ | _ | _ | i
              all_goals simp only [List.getElem?_cons_succ, List.getElem?_cons_zero, List.getElem?_nil, Option.some.injEq, reduceCtorEq] at hi
              all_goals subst hi
              · have E8 : a.tmps[8]? = some (.int .i64 (k : Int)) := (same_of hsame 8 (by rfl)).trans rfl
                refine g_plain rfl ?_
                exact does_value (w' := W) (v := .int .i64 (k : Int)) (by go_simp) ⟨(), .inr rfl, hS⟩
              · have E0 : a.tmps[0]? = some (.slice (some ⟨q, 0, none⟩) 64 c) := (same_of hsame 0 (by rfl)).trans rfl
                refine g_plain rfl ?_
                exact does_value (w' := W) (v := .slice (some ⟨q, 0, none⟩) 64 c) (by go_simp) ⟨(), .inr rfl, hS⟩
              · have E9 : a.tmps[9]? = some (.int .i64 (z : Int)) := (same_of hsame 9 (by rfl)).trans rfl
                refine g_plain rfl ?_
                exact does_value (w' := W) (v := .int .i64 (z : Int)) (by go_simp) ⟨(), .inr rfl, hS⟩
              · have E62 := hval 2 _ 62 rfl rfl (dep_of hdep 2 (by rfl))
                unfold rg6Val at E62
                refine g_plain rfl ?_
                exact does_value (w' := W) (v := .int .i64 (14 + (z : Int))) (by go_simp) ⟨(), .inr rfl, hS⟩
              · have E61 := hval 1 _ 61 rfl rfl (dep_of hdep 1 (by rfl))
                have E63 := hval 3 _ 63 rfl rfl (dep_of hdep 3 (by rfl))
                unfold rg6Val at E61 E63
                refine g_plain rfl ?_
                exact does_value (w' := W) (v := .slice (some ⟨q, 14, none⟩) z (c - 14)) (by go_simp) ⟨(), .inr rfl, hS⟩
              · have E60 := hval 0 _ 60 rfl rfl (dep_of hdep 0 (by rfl))
                unfold rg6Val at E60
                refine g_plain rfl ?_
                exact does_value (w' := W) (v := .int .i64 (k : Int)) (by go_simp) ⟨(), .inr rfl, hS⟩
              · have E64 := hval 4 _ 64 rfl rfl (dep_of hdep 4 (by rfl))
                unfold rg6Val at E64
                refine g_plain rfl ?_
                exact does_value (w' := W) (v := .slice (some ⟨q, 14, none⟩) z (c - 14)) (by go_simp) ⟨(), .inr rfl, hS⟩
            · intro gh2 w9 hS
              have HB9 := hid (show Below w8.heap.size w8 w9 from hS)
              clear hS HST3
              simp only [putAll, rg6Val, Nat.reduceAdd, Nat.zero_add, Act.put, List.setIfInBounds_toArray, List.set_cons_zero, List.set_cons_succ]
              go_wp2_with fail
              go_ret2
              exact ⟨by rw [HRX.out]; rfl, (HB1.out.trans (HB8.out.mono HB1.out.size)).trans (HB9.out.mono (Nat.le_trans HB1.out.size HB8.out.size))⟩
      by_cases tk : k = 3
      · have p1 : ¬ (k : Int) < 1 := by omega
        have p2 : ¬ (4 : Int) < (k : Int) := by omega
        have p3 : ¬ (49 : Int) < (z : Int) := by omega
        have HAL49 : z = 49 := by
          have h := HAL.out
          unfold allowsB at h
          rw [if_neg (by omega), if_pos (by omega)] at h
          exact of_decide_eq_true h
        have q1 : ((k : Int) == 2) = false := by simp; omega
        have q2 : ((k : Int) == 3) = true := by simp [tk]
        have q4 : ((z : Int) != 49) = false := by rw [HAL49]; rfl
        have q3 : ((k : Int) == 4) = false := by simp; omega
        have TK := hid tk
        clear tk HAL49
        go_wp2_with fail
        refine wp_region_invG 65 (.pointer none) (rg4Val q c gen idx k z st1 st2 eqv) (RgS w1 sec) (by kernel_rfl) (by kernel_rfl) (by exact Nat.le_refl 65) ?_ ?_ ?_
        · exact HST2.out
        · intro i o f gh a W hi hf hdep hsame hcl hval hS
          rcases i with _ | _ | _ | _ | _ | _ | _ | _ | _ | _ | _ | _ | i
          all_goals simp only [List.getElem?_cons_succ, List.getElem?_cons_zero, List.getElem?_nil, Option.some.injEq, reduceCtorEq] at hi
          all_goals subst hi
          · have E1 : a.tmps[1]? = some (.int .i64 (gen : Int)) := (same_of hsame 1 (by rfl)).trans rfl
            refine g_plain rfl ?_
            exact does_value (w' := W) (v := .int .i64 (gen : Int)) (by go_simp) ⟨.pointer none, .inr rfl, hS.step 0 (.pointer none) (by decide)⟩
          · have E2 : a.tmps[2]? = some (.int .i64 (idx : Int)) := (same_of hsame 2 (by rfl)).trans rfl
            refine g_plain rfl ?_
            exact does_value (w' := W) (v := .int .i64 (idx : Int)) (by go_simp) ⟨.pointer none, .inr rfl, hS.step 1 (.pointer none) (by decide)⟩
          · have E8 : a.tmps[8]? = some (.int .i64 (k : Int)) := (same_of hsame 8 (by rfl)).trans rfl
            refine g_plain rfl ?_
            exact does_value (w' := W) (v := .int .i64 (k : Int)) (by go_simp) ⟨.pointer none, .inr rfl, hS.step 2 (.pointer none) (by decide)⟩
          · have E0 : a.tmps[0]? = some (.slice (some ⟨q, 0, none⟩) 64 c) := (same_of hsame 0 (by rfl)).trans rfl
            refine g_plain rfl ?_
            exact does_value (w' := W) (v := .slice (some ⟨q, 0, none⟩) 64 c) (by go_simp) ⟨.pointer none, .inr rfl, hS.step 3 (.pointer none) (by decide)⟩
          · have E9 : a.tmps[9]? = some (.int .i64 (z : Int)) := (same_of hsame 9 (by rfl)).trans rfl
            refine g_plain rfl ?_
            exact does_value (w' := W) (v := .int .i64 (z : Int)) (by go_simp) ⟨.pointer none, .inr rfl, hS.step 4 (.pointer none) (by decide)⟩
          · have E52 := hval 4 _ 52 rfl rfl (dep_of hdep 4 (by rfl))
            unfold rg4Val at E52
            refine g_plain rfl ?_
            exact does_value (w' := W) (v := .int .i64 (14 + (z : Int))) (by go_simp) ⟨.pointer none, .inr rfl, hS.step 5 (.pointer none) (by decide)⟩
          · have E51 := hval 3 _ 51 rfl rfl (dep_of hdep 3 (by rfl))
            have E53 := hval 5 _ 53 rfl rfl (dep_of hdep 5 (by rfl))
            unfold rg4Val at E51 E53
            refine g_plain rfl ?_
            exact does_value (w' := W) (v := .slice (some ⟨q, 14, none⟩) z (c - 14)) (by go_simp) ⟨.pointer none, .inr rfl, hS.step 6 (.pointer none) (by decide)⟩
          · have E48 := hval 0 _ 48 rfl rfl (dep_of hdep 0 (by rfl))
            have E49 := hval 1 _ 49 rfl rfl (dep_of hdep 1 (by rfl))
            have E50 := hval 2 _ 50 rfl rfl (dep_of hdep 2 (by rfl))
            have E54 := hval 6 _ 54 rfl rfl (dep_of hdep 6 (by rfl))
            unfold rg4Val at E48 E49 E50 E54
            refine g_plain rfl ?_
            refine does_call 77 #[.int .i64 (gen : Int), .int .i64 (idx : Int), .int .i64 (k : Int), .slice (some ⟨q, 14, none⟩) z (c - 14)] (by go_simp) ((HSEC.out W hS.bel).mono ?_)
            rintro _ W' ⟨v, rfl, ho, hb⟩
            exact ⟨v, rfl, v, .inr rfl, hS.s7 ho hb⟩
          · have E55 := hval 7 _ 55 rfl rfl (dep_of hdep 7 (by rfl))
            unfold rg4Val at E55
            refine g_plain rfl ?_
            obtain ⟨A7, c7, e7, -, hs7, -⟩ := (hS.a (dep_of hdep 7 (by rfl))).sb
            rw [e7] at E55
            have hstr := HSC.out W A7 c7 hs7
            exact does_value (w' := W) (v := .string st1) (by go_simp) ⟨.pointer none, .inr rfl, hS.step 8 (.pointer none) (by decide)⟩
          · have E0 : a.tmps[0]? = some (.slice (some ⟨q, 0, none⟩) 64 c) := (same_of hsame 0 (by rfl)).trans rfl
            refine g_plain rfl ?_
            exact does_value (w' := W) (v := .slice (some ⟨q, 0, none⟩) 64 c) (by go_simp) ⟨.pointer none, .inr rfl, hS.step 9 (.pointer none) (by decide)⟩
          · have E57 := hval 9 _ 57 rfl rfl (dep_of hdep 9 (by rfl))
            unfold rg4Val at E57
            have hstr := HSS.out W hS.bel
            refine g_plain rfl ?_
            exact does_value (w' := W) (v := .string st2) (by go_simp) ⟨.pointer none, .inr rfl, hS.step 10 (.pointer none) (by decide)⟩
          · have E56 := hval 8 _ 56 rfl rfl (dep_of hdep 8 (by rfl))
            have E58 := hval 10 _ 58 rfl rfl (dep_of hdep 10 (by rfl))
            unfold rg4Val at E56 E58
            refine g_plain rfl ?_
            exact does_value (w' := W) (v := .bool (!eqv)) (by go_simp) ⟨.pointer none, .inr rfl, hS.step 11 (.pointer none) (by decide)⟩
        · intro gh w8 hS
          have HB8 := hid hS.bel
          clear hS HST2 HSEC HSS HSC
          simp only [putAll, rg4Val, Nat.reduceAdd, Nat.zero_add, Act.put, List.setIfInBounds_toArray, List.set_cons_zero, List.set_cons_succ]
          cases eqv with
          | false =>
            have HRX := hid (show RV = .tuple #[.int .i64 0, .slice none 0 0] from HRV.out)
            go_wp2_with fail
            go_ret2
            exact ⟨by rw [HRX.out]; rfl, HB1.out.trans (HB8.out.mono HB1.out.size)⟩
          | true =>
            have HRX := hid (show RV = .tuple #[.int .i64 (k : Int), .slice (some ⟨q, 14, none⟩) z (c - 14)] from HRV.out)
            have HST3 := hid (show CkS w8 (fun j => decide (7 ≤ j)) (fun _ => ()) w8.drew from (Below.refl _ _).drew)
            go_wp2_with fail
            refine wp_region_invG 65 () (rg6Val q c k z) (CkS w8) (by kernel_rfl) (by kernel_rfl) (by exact Nat.le_refl 65) ?_ ?_ ?_
            · exact HST3.out
            · intro i o f gh a W hi hf hdep hsame hcl hval hS
              rcases i with _ | _ | _ | _ | _ | _ | _ | i
              all_goals simp only [List.getElem?_cons_succ, List.getElem?_cons_zero, List.getElem?_nil, Option.some.injEq, reduceCtorEq] at hi
              all_goals subst hi
              · have E8 : a.tmps[8]? = some (.int .i64 (k : Int)) := (same_of hsame 8 (by rfl)).trans rfl
                refine g_plain rfl ?_
                exact does_value (w' := W) (v := .int .i64 (k : Int)) (by go_simp) ⟨(), .inr rfl, hS⟩
              · have E0 : a.tmps[0]? = some (.slice (some ⟨q, 0, none⟩) 64 c) := (same_of hsame 0 (by rfl)).trans rfl
                refine g_plain rfl ?_
                exact does_value (w' := W) (v := .slice (some ⟨q, 0, none⟩) 64 c) (by go_simp) ⟨(), .inr rfl, hS⟩
              · have E9 : a.tmps[9]? = some (.int .i64 (z : Int)) := (same_of hsame 9 (by rfl)).trans rfl
                refine g_plain rfl ?_
                exact does_value (w' := W) (v := .int .i64 (z : Int)) (by go_simp) ⟨(), .inr rfl, hS⟩
              · have E62 := hval 2 _ 62 rfl rfl (dep_of hdep 2 (by rfl))
                unfold rg6Val at E62
                refine g_plain rfl ?_
                exact does_value (w' := W) (v := .int .i64 (14 + (z : Int))) (by go_simp) ⟨(), .inr rfl, hS⟩
              · have E61 := hval 1 _ 61 rfl rfl (dep_of hdep 1 (by rfl))
                have E63 := hval 3 _ 63 rfl rfl (dep_of hdep 3 (by rfl))
                unfold rg6Val at E61 E63
                refine g_plain rfl ?_
                exact does_value (w' := W) (v := .slice (some ⟨q, 14, none⟩) z (c - 14)) (by go_simp) ⟨(), .inr rfl, hS⟩
              · have E60 := hval 0 _ 60 rfl rfl (dep_of hdep 0 (by rfl))
                unfold rg6Val at E60
                refine g_plain rfl ?_
                exact does_value (w' := W) (v := .int .i64 (k : Int)) (by go_simp) ⟨(), .inr rfl, hS⟩
              · have E64 := hval 4 _ 64 rfl rfl (dep_of hdep 4 (by rfl))
                unfold rg6Val at E64
                refine g_plain rfl ?_
                exact does_value (w' := W) (v := .slice (some ⟨q, 14, none⟩) z (c - 14)) (by go_simp) ⟨(), .inr rfl, hS⟩
            · intro gh2 w9 hS
              have HB9 := hid (show Below w8.heap.size w8 w9 from hS)
              clear hS HST3
              simp only [putAll, rg6Val, Nat.reduceAdd, Nat.zero_add, Act.put, List.setIfInBounds_toArray, List.set_cons_zero, List.set_cons_succ]
              go_wp2_with fail
              go_ret2
              exact ⟨by rw [HRX.out]; rfl, (HB1.out.trans (HB8.out.mono HB1.out.size)).trans (HB9.out.mono (Nat.le_trans HB1.out.size HB8.out.size))⟩
      by_cases tk : k = 4
      · have p1 : ¬ (k : Int) < 1 := by omega
        have p2 : ¬ (4 : Int) < (k : Int) := by omega
        have p3 : ¬ (49 : Int) < (z : Int) := by omega
        have HZ0 : ¬ z = 0 := by
          have h := HAL.out
          unfold allowsB at h
          rw [if_neg (by omega), if_neg (by omega), if_pos tk] at h
          have := of_decide_eq_true h
          omega
        have q1 : ((k : Int) == 2) = false := by simp; omega
        have q2 : ((k : Int) == 3) = false := by simp; omega
        have q3 : ((k : Int) == 4) = true := by simp [tk]
        have q4 : ((z : Int) == 0) = false := by simp; omega
        have TK := hid tk
        clear tk
        go_wp2_with fail
        refine wp_region_invG 65 (.pointer none) (rg4Val q c gen idx k z st1 st2 eqv) (RgS w1 sec) (by kernel_rfl) (by kernel_rfl) (by exact Nat.le_refl 65) ?_ ?_ ?_
        · exact HST2.out
        · intro i o f gh a W hi hf hdep hsame hcl hval hS
          rcases i with _ | _ | _ | _ | _ | _ | _ | _ | _ | _ | _ | _ | i
          all_goals simp only [List.getElem?_cons_succ, List.getElem?_cons_zero, List.getElem?_nil, Option.some.injEq, reduceCtorEq] at hi
          all_goals subst hi
          · have E1 : a.tmps[1]? = some (.int .i64 (gen : Int)) := (same_of hsame 1 (by rfl)).trans rfl
            refine g_plain rfl ?_
            exact does_value (w' := W) (v := .int .i64 (gen : Int)) (by go_simp) ⟨.pointer none, .inr rfl, hS.step 0 (.pointer none) (by decide)⟩
          · have E2 : a.tmps[2]? = some (.int .i64 (idx : Int)) := (same_of hsame 2 (by rfl)).trans rfl
            refine g_plain rfl ?_
            exact does_value (w' := W) (v := .int .i64 (idx : Int)) (by go_simp) ⟨.pointer none, .inr rfl, hS.step 1 (.pointer none) (by decide)⟩
          · have E8 : a.tmps[8]? = some (.int .i64 (k : Int)) := (same_of hsame 8 (by rfl)).trans rfl
            refine g_plain rfl ?_
            exact does_value (w' := W) (v := .int .i64 (k : Int)) (by go_simp) ⟨.pointer none, .inr rfl, hS.step 2 (.pointer none) (by decide)⟩
          · have E0 : a.tmps[0]? = some (.slice (some ⟨q, 0, none⟩) 64 c) := (same_of hsame 0 (by rfl)).trans rfl
            refine g_plain rfl ?_
            exact does_value (w' := W) (v := .slice (some ⟨q, 0, none⟩) 64 c) (by go_simp) ⟨.pointer none, .inr rfl, hS.step 3 (.pointer none) (by decide)⟩
          · have E9 : a.tmps[9]? = some (.int .i64 (z : Int)) := (same_of hsame 9 (by rfl)).trans rfl
            refine g_plain rfl ?_
            exact does_value (w' := W) (v := .int .i64 (z : Int)) (by go_simp) ⟨.pointer none, .inr rfl, hS.step 4 (.pointer none) (by decide)⟩
          · have E52 := hval 4 _ 52 rfl rfl (dep_of hdep 4 (by rfl))
            unfold rg4Val at E52
            refine g_plain rfl ?_
            exact does_value (w' := W) (v := .int .i64 (14 + (z : Int))) (by go_simp) ⟨.pointer none, .inr rfl, hS.step 5 (.pointer none) (by decide)⟩
          · have E51 := hval 3 _ 51 rfl rfl (dep_of hdep 3 (by rfl))
            have E53 := hval 5 _ 53 rfl rfl (dep_of hdep 5 (by rfl))
            unfold rg4Val at E51 E53
            refine g_plain rfl ?_
            exact does_value (w' := W) (v := .slice (some ⟨q, 14, none⟩) z (c - 14)) (by go_simp) ⟨.pointer none, .inr rfl, hS.step 6 (.pointer none) (by decide)⟩
          · have E48 := hval 0 _ 48 rfl rfl (dep_of hdep 0 (by rfl))
            have E49 := hval 1 _ 49 rfl rfl (dep_of hdep 1 (by rfl))
            have E50 := hval 2 _ 50 rfl rfl (dep_of hdep 2 (by rfl))
            have E54 := hval 6 _ 54 rfl rfl (dep_of hdep 6 (by rfl))
            unfold rg4Val at E48 E49 E50 E54
            refine g_plain rfl ?_
            refine does_call 77 #[.int .i64 (gen : Int), .int .i64 (idx : Int), .int .i64 (k : Int), .slice (some ⟨q, 14, none⟩) z (c - 14)] (by go_simp) ((HSEC.out W hS.bel).mono ?_)
            rintro _ W' ⟨v, rfl, ho, hb⟩
            exact ⟨v, rfl, v, .inr rfl, hS.s7 ho hb⟩
          · have E55 := hval 7 _ 55 rfl rfl (dep_of hdep 7 (by rfl))
            unfold rg4Val at E55
            refine g_plain rfl ?_
            obtain ⟨A7, c7, e7, -, hs7, -⟩ := (hS.a (dep_of hdep 7 (by rfl))).sb
            rw [e7] at E55
            have hstr := HSC.out W A7 c7 hs7
            exact does_value (w' := W) (v := .string st1) (by go_simp) ⟨.pointer none, .inr rfl, hS.step 8 (.pointer none) (by decide)⟩
          · have E0 : a.tmps[0]? = some (.slice (some ⟨q, 0, none⟩) 64 c) := (same_of hsame 0 (by rfl)).trans rfl
            refine g_plain rfl ?_
            exact does_value (w' := W) (v := .slice (some ⟨q, 0, none⟩) 64 c) (by go_simp) ⟨.pointer none, .inr rfl, hS.step 9 (.pointer none) (by decide)⟩
          · have E57 := hval 9 _ 57 rfl rfl (dep_of hdep 9 (by rfl))
            unfold rg4Val at E57
            have hstr := HSS.out W hS.bel
            refine g_plain rfl ?_
            exact does_value (w' := W) (v := .string st2) (by go_simp) ⟨.pointer none, .inr rfl, hS.step 10 (.pointer none) (by decide)⟩
          · have E56 := hval 8 _ 56 rfl rfl (dep_of hdep 8 (by rfl))
            have E58 := hval 10 _ 58 rfl rfl (dep_of hdep 10 (by rfl))
            unfold rg4Val at E56 E58
            refine g_plain rfl ?_
            exact does_value (w' := W) (v := .bool (!eqv)) (by go_simp) ⟨.pointer none, .inr rfl, hS.step 11 (.pointer none) (by decide)⟩
        · intro gh w8 hS
          have HB8 := hid hS.bel
          clear hS HST2 HSEC HSS HSC
          simp only [putAll, rg4Val, Nat.reduceAdd, Nat.zero_add, Act.put, List.setIfInBounds_toArray, List.set_cons_zero, List.set_cons_succ]
          cases eqv with
          | false =>
            have HRX := hid (show RV = .tuple #[.int .i64 0, .slice none 0 0] from HRV.out)
            go_wp2_with fail
            go_ret2
            exact ⟨by rw [HRX.out]; rfl, HB1.out.trans (HB8.out.mono HB1.out.size)⟩
          | true =>
            have HRX := hid (show RV = .tuple #[.int .i64 (k : Int), .slice (some ⟨q, 14, none⟩) z (c - 14)] from HRV.out)
            have HST3 := hid (show CkS w8 (fun j => decide (7 ≤ j)) (fun _ => ()) w8.drew from (Below.refl _ _).drew)
            go_wp2_with fail
            refine wp_region_invG 65 () (rg6Val q c k z) (CkS w8) (by kernel_rfl) (by kernel_rfl) (by exact Nat.le_refl 65) ?_ ?_ ?_
            · exact HST3.out
            · intro i o f gh a W hi hf hdep hsame hcl hval hS
              rcases i with _ | _ | _ | _ | _ | _ | _ | i
              all_goals simp only [List.getElem?_cons_succ, List.getElem?_cons_zero, List.getElem?_nil, Option.some.injEq, reduceCtorEq] at hi
              all_goals subst hi
              · have E8 : a.tmps[8]? = some (.int .i64 (k : Int)) := (same_of hsame 8 (by rfl)).trans rfl
                refine g_plain rfl ?_
                exact does_value (w' := W) (v := .int .i64 (k : Int)) (by go_simp) ⟨(), .inr rfl, hS⟩
              · have E0 : a.tmps[0]? = some (.slice (some ⟨q, 0, none⟩) 64 c) := (same_of hsame 0 (by rfl)).trans rfl
                refine g_plain rfl ?_
                exact does_value (w' := W) (v := .slice (some ⟨q, 0, none⟩) 64 c) (by go_simp) ⟨(), .inr rfl, hS⟩
              · have E9 : a.tmps[9]? = some (.int .i64 (z : Int)) := (same_of hsame 9 (by rfl)).trans rfl
                refine g_plain rfl ?_
                exact does_value (w' := W) (v := .int .i64 (z : Int)) (by go_simp) ⟨(), .inr rfl, hS⟩
              · have E62 := hval 2 _ 62 rfl rfl (dep_of hdep 2 (by rfl))
                unfold rg6Val at E62
                refine g_plain rfl ?_
                exact does_value (w' := W) (v := .int .i64 (14 + (z : Int))) (by go_simp) ⟨(), .inr rfl, hS⟩
              · have E61 := hval 1 _ 61 rfl rfl (dep_of hdep 1 (by rfl))
                have E63 := hval 3 _ 63 rfl rfl (dep_of hdep 3 (by rfl))
                unfold rg6Val at E61 E63
                refine g_plain rfl ?_
                exact does_value (w' := W) (v := .slice (some ⟨q, 14, none⟩) z (c - 14)) (by go_simp) ⟨(), .inr rfl, hS⟩
              · have E60 := hval 0 _ 60 rfl rfl (dep_of hdep 0 (by rfl))
                unfold rg6Val at E60
                refine g_plain rfl ?_
                exact does_value (w' := W) (v := .int .i64 (k : Int)) (by go_simp) ⟨(), .inr rfl, hS⟩
              · have E64 := hval 4 _ 64 rfl rfl (dep_of hdep 4 (by rfl))
                unfold rg6Val at E64
                refine g_plain rfl ?_
                exact does_value (w' := W) (v := .slice (some ⟨q, 14, none⟩) z (c - 14)) (by go_simp) ⟨(), .inr rfl, hS⟩
            · intro gh2 w9 hS
              have HB9 := hid (show Below w8.heap.size w8 w9 from hS)
              clear hS HST3
              simp only [putAll, rg6Val, Nat.reduceAdd, Nat.zero_add, Act.put, List.setIfInBounds_toArray, List.set_cons_zero, List.set_cons_succ]
              go_wp2_with fail
              go_ret2
              exact ⟨by rw [HRX.out]; rfl, (HB1.out.trans (HB8.out.mono HB1.out.size)).trans (HB9.out.mono (Nat.le_trans HB1.out.size HB8.out.size))⟩
      exact absurd HAL.out (by unfold allowsB; rw [if_neg (by omega), if_neg (by omega), if_neg (by omega)]; decide)
    · have hal2 : allowsB k z = false := by simpa using hal
      have HRX := hid (show RV = .tuple #[.int .i64 0, .slice none 0 0] from by rw [HRV.out, HV.out, hal2]; rfl)
      clear HRV HV HP hal
      unfold allowsB at hal2
      by_cases t1 : k < 1
      · have q1 : (k : Int) < 1 := by omega
        clear hal2
        go_wp2_with fail
        go_ret2
        exact ⟨by rw [HRX.out]; rfl, HB1.out⟩
      have q1 : ¬ (k : Int) < 1 := by omega
      by_cases t2 : 4 < k
      · have q2 : (4 : Int) < (k : Int) := by omega
        clear hal2
        go_wp2_with fail
        go_ret2
        exact ⟨by rw [HRX.out]; rfl, HB1.out⟩
      have q2 : ¬ (4 : Int) < (k : Int) := by omega
      by_cases t3 : 49 < z
      · have q3 : (49 : Int) < (z : Int) := by omega
        clear hal2
        go_wp2_with fail
        go_ret2
        exact ⟨by rw [HRX.out]; rfl, HB1.out⟩
      have q3 : ¬ (49 : Int) < (z : Int) := by omega
      by_cases t4 : k = 2
      · have q4 : ((k : Int) == 2) = true := by simp [t4]
        have q5 : ((z : Int) != 49) = true := by
          rw [if_neg (by omega), if_pos (.inl t4)] at hal2
          simp at hal2 ⊢; omega
        clear hal2
        have T4 := hid t4
        clear t4
        go_wp2_with fail
        go_ret2
        exact ⟨by rw [HRX.out]; rfl, HB1.out⟩
      have q4 : ((k : Int) == 2) = false := by simp; omega
      by_cases t5 : k = 3
      · have q5 : ((k : Int) == 3) = true := by simp [t5]
        have q6 : ((z : Int) != 49) = true := by
          rw [if_neg (by omega), if_pos (.inr t5)] at hal2
          simp at hal2 ⊢; omega
        clear hal2
        have T5 := hid t5
        clear t5
        go_wp2_with fail
        go_ret2
        exact ⟨by rw [HRX.out]; rfl, HB1.out⟩
      have q5 : ((k : Int) == 3) = false := by simp; omega
      have t6 : k = 4 := by
        rcases (show k = 1 ∨ k = 4 by omega) with h | h
        · rw [if_pos h] at hal2; simp at hal2; omega
        · exact h
      have t7 : z = 0 := by
        rw [if_neg (by omega), if_neg (by omega), if_pos t6] at hal2
        simp at hal2; omega
      have q6 : ((k : Int) == 4) = true := by simp [t6]
      have q7 : ((z : Int) == 0) = true := by simp [t7]
      clear hal2 t6 t7
      go_wp2_with fail
      go_ret2
      exact ⟨by rw [HRX.out]; rfl, HB1.out⟩
end Go.Proofs.Ytiejndkchcljdaa
/- Contract: Scan of the plain reference's log. -/
namespace Go.Proofs.Ytiejndkchcljdaa
open Go.RowKit

section
variable (bx gx m : Nat) (Fx : List Nat) (s : DS) (w : World)
set_option maxHeartbeats 4000000 in
set_option maxRecDepth 20000 in
theorem rScan_calls (a : AR) (h : RdB w bx Fx gx m s) (h1n : 1 ≤ s.n) (h40 : s.n ≤ 40) (hlo : s.loose.length ≤ 1000000) :
    Calls Try.prog 31 #[.pointer (some ⟨gx, 0, none⟩), arv a] w fun e w' => ∃ v vs, e = .returned (.tuple #[v, .int .i64 ((scanR s a).2 : Int), .int .i64 (scanE s a : Int)]) ∧ Recs w' w.heap.size v (scanR s a).1 vs ∧ Below w.heap.size w w' := by
  obtain ⟨x, y, z⟩ := a
  have HCK := hid (fun W (hW : Below w.heap.size w W) => rCheck_calls bx gx m Fx s W ⟨x, y, z⟩ (h.keep hW) h1n)
  have HOU := hid (fun W (hW : Below w.heap.size w W) => rOut_calls bx gx m Fx s W (h.keep hW))
  have HTB := hid (Blk.new w 33 #[.int .i64 x, .int .i64 y, .int .i64 z])
  have HB1 := hid (below_new w (.cells #[.int .i64 x, .int .i64 y, .int .i64 z] 33))
  have HE := hid (show scanE s ⟨x, y, z⟩ = if checkE s.n ⟨x, y, z⟩ = 0 then (if s.out = true then 22 else 0) else checkE s.n ⟨x, y, z⟩ from rfl)
  have HR := hid (show scanR s ⟨x, y, z⟩ = if checkE s.n ⟨x, y, z⟩ = 0 ∧ s.out = false then scanL z.toNat (secsOf s x.toNat) (y - x).toNat 0 [] [] 0 else ([], 0) from rfl)
  rw [show arv ⟨x, y, z⟩ = .agg #[.int .i64 x, .int .i64 y, .int .i64 z] from rfl] at HCK ⊢
  generalize scanE s ⟨x, y, z⟩ = E at HE ⊢
  generalize scanR s ⟨x, y, z⟩ = R at HR ⊢
  by_cases hC : checkE s.n ⟨x, y, z⟩ = 0
  · rw [if_pos hC] at HE
    by_cases ho : s.out = true
    · rw [if_neg (by simp [ho])] at HR
      rw [if_pos ho] at HE
      rw [hC] at HCK
      rw [ho] at HOU
      clear h hC ho
      go_enter Try.func31, Try.ntmps31
      go_wp2_with fail
      generalize w.alloc (.cells #[.int .i64 x, .int .i64 y, .int .i64 z] 33) = w1 at HB1 ⊢
      refine (HCK.out w1 HB1.out).mono ?_
      rintro _ w2 ⟨rfl, hb2⟩
      have HB2 := hid (HB1.out.trans (hb2.mono HB1.out.size))
      clear hb2
      go_wp2_with fail
      refine (HOU.out w2 HB2.out).mono ?_
      rintro _ _ ⟨rfl, rfl⟩
      go_wp2_with fail
      go_ret3
      exact ⟨_, [], by rw [HE.out, HR.out]; rfl, by rw [HR.out]; exact Recs.nil _ _, HB2.out⟩
    have ho' : s.out = false := by simpa using ho
    have hk := check_ok hC
    obtain ⟨k1, k2, k3, k4, k5⟩ := hk
    dsimp only at k1 k2 k3 k4 k5
    rw [if_pos ⟨hC, ho'⟩] at HR
    rw [if_neg ho] at HE
    rw [hC] at HCK
    rw [ho'] at HOU
    obtain ⟨fr, rfl⟩ : ∃ fr : Nat, x = (fr : Int) := ⟨x.toNat, by omega⟩
    obtain ⟨gn, rfl⟩ : ∃ gn : Nat, z = (gn : Int) := ⟨z.toNat, by omega⟩
    obtain ⟨n, hn⟩ : ∃ n : Nat, y - (fr : Int) = (n : Int) := ⟨(y - fr).toNat, by omega⟩
    rw [hn, Int.toNat_natCast, Int.toNat_natCast, Int.toNat_natCast] at HR
    have hn40 : n ≤ 40 := by omega
    have h64 : ∀ k, k < n → (secsOf s fr k).length = 64 := fun k hk => secAt_length h.ok.n1 (by omega)
    have H64 := hid h64
    have HRD := hid (fun W (k : Nat) (hk : k < n) (hW : Below w.heap.size w W) => (show Calls Try.prog 67 #[.pointer (some ⟨gx, 0, none⟩), .int .i64 ((fr : Int) + (k : Int))] W (AskPost W (secsOf s fr k) 0) from by
      have := rRead_calls bx gx m Fx s W ((fr : Int) + (k : Int)) hlo (h.keep hW)
      have hb : hasB s.n ((fr : Int) + (k : Int)) = true := by simp [hasB]; omega
      rwa [show readB s ((fr : Int) + (k : Int)) = secsOf s fr k from by unfold readB; rw [if_neg ho, if_pos hb]; unfold secsOf; congr 1, show readE s ((fr : Int) + (k : Int)) = 0 from by unfold readE; rw [if_neg ho, if_pos hb]] at this))
    have eyn : IntKind.i64.wrap (y - (fr : Int)) = (n : Int) := by rw [hn, IntWalk.i64_in] <;> omega
    have hfr : fr ≤ 40 := by omega
    clear h hC ho ho' h64 k1 k2 k3 k4 k5 hlo h1n h40 hn
    generalize secsOf s fr = sec at HR H64 HRD
    go_enter Try.func31, Try.ntmps31
    go_wp2_with fail
    generalize w.alloc (.cells #[.int .i64 (fr : Int), .int .i64 y, .int .i64 (gn : Int)] 33) = w1 at HTB HB1 ⊢
    refine (HCK.out w1 HB1.out).mono ?_
    rintro _ w2 ⟨rfl, hb2⟩
    have HB2 := hid (HB1.out.trans (hb2.mono HB1.out.size)); have HA2 := hid (HTB.out.keep hb2)
    clear hb2 HB1 HTB
    go_wp2_with fail
    refine (HOU.out w2 HB2.out).mono ?_
    rintro _ _ ⟨rfl, rfl⟩
    clear HOU HCK
    go_wp2_with fail
    go_loopw [8, 9, 10, 11] (fun v8 v9 v10 v11 wr => ∃ (k e : Nat) (rec : List UInt8) (recs : List (List UInt8)) (vs : List Value), k ≤ n ∧ v11 = .int .i64 (k : Int) ∧ v9 = .int .i64 (e : Int) ∧ e ≤ k ∧ rec.length ≤ 49 * k ∧ recs.length ≤ k ∧ Hid (Own wr (w.heap.size + 1) 5 v10 rec.length rec) ∧ Hid (Recs wr (w.heap.size + 1) v8 recs vs) ∧ Hid (farOf v8 vs v10.ownBlock) ∧ Hid (Below w.heap.size w wr) ∧ Hid (Blk wr w.heap.size 33 #[.int .i64 (fr : Int), .int .i64 y, .int .i64 (gn : Int)]) ∧ Hid (scanL gn sec (n - k) k rec recs e = R)) (fun _ _ _ i _ => n - (intOf i).toNat)
    case atStart => exact ⟨0, 0, [], [], [], Nat.zero_le _, rfl, rfl, Nat.zero_le _, by simp, by simp, hid (Own.nil _ _ _), hid (Recs.nil _ _), hid (far_none _ _), HB2, HA2, hid (by rw [HR.out]; rfl)⟩
    case round =>
      clear HB2 HA2 HR
      obtain ⟨k, e, rec, recs, vs, hk, rfl, rfl, he, hrl, hrn, HO, HL, HF, HB, HA, HR⟩ := hrel
      have c0 := HA.out.cell 0 (show _ = some (Value.int .i64 (fr : Int)) from rfl)
      have c1 := HA.out.cell 1 (show _ = some (Value.int .i64 y) from rfl)
      by_cases hlt : k < n
      · have q0 : (k : Int) < (n : Int) := by omega
        have HD := hid (HRD.out wr k hlt HB.out)
        have hnk : n - k = (n - (k + 1)) + 1 := by omega
        rw [hnk] at HR
        have HS64 := hid (H64.out k hlt)
        have efk : IntKind.i64.wrap ((fr : Int) + (k : Int)) = (fr : Int) + (k : Int) := by rw [IntWalk.i64_in] <;> omega
        clear hnk
        go_wp2_with fail
        refine HD.out.mono ?_
        rintro _ w3 ⟨v3, rfl, ho3, hb3⟩
        rw [HS64.out] at ho3
        obtain ⟨qb, cb, rfl⟩ := Go.Joins.ownsRow_form ho3 (by omega)
        obtain ⟨A9, c9, e9, h9, hs9, -⟩ := ho3.sb
        cases e9
        have HSB := hid hs9
        have HO3 := hid (HO.out.keep hb3); have HL3 := hid (HL.out.keep hb3); have HB3 := hid (HB.out.trans (hb3.mono HB.out.size)); have HA3 := hid (HA.out.keep hb3)
        have c2 := HA3.out.cell 2 (show _ = some (Value.int .i64 (gn : Int)) from rfl)
        have HRG := hid (rRight_calls gn k qb cb _ (sec k) w3 hs9 h9)
        have hcb : 64 ≤ cb := h9
        clear ho3 hb3 hs9 h9 HD HO HL HB HA c0 c1 efk
        go_wp2_with fail
        refine HRG.out.mono ?_
        rintro _ w4 ⟨rfl, hb4⟩
        have HO4 := hid (HO3.out.keep hb4); have HL4 := hid (HL3.out.keep hb4); have HB4 := hid (HB3.out.trans (hb4.mono HB3.out.size)); have HA4 := hid (HA3.out.keep hb4); have HSB4 := hid (HSB.out.keep hb4)
        clear hb4 HRG c2 HO3 HL3 HB3 HA3 HSB
        cases hv : validB gn k (sec k) with
        | false =>
          have HRE := hid (show (recs, e) = R from by have := HR.out; rw [scan_stop hv] at this; exact this)
          have HRF := hid (show (e : Int) = (R.2 : Int) from by rw [← HRE.out])
          rw [show rightV gn k qb cb (sec k) = .tuple #[.int .i64 0, .slice none 0 0] from by unfold rightV; rw [hv]; rfl]
          clear HO4 HA4 HR HSB4 hv HF
          go_wp2_with fail
          go_ret3
          first
            | refine ⟨_, vs, ?_, (show Recs _ _ _ R.1 vs from by rw [← HRE.out]; exact HL4.out.lower (Nat.le_succ _)), HB4.out⟩
            | refine ⟨_, ?_, ⟨vs, (show Recs _ _ _ R.1 vs from by rw [← HRE.out]; exact HL4.out.lower (Nat.le_succ _))⟩, HB4.out⟩
          rw [← HRF.out, HE.out]; rfl
        | true =>
          have hn49 := allows_size (valid_allows hv)
          have hall := valid_allows hv
          rw [show rightV gn k qb cb (sec k) = .tuple #[.int .i64 (kindL (sec k) : Int), .slice (some ⟨qb, 14, none⟩) (sizeL (sec k)) (cb - 14)] from by unfold rightV; rw [hv]; rfl]
          have hpl : (partL (sec k)).length = sizeL (sec k) := by unfold partL; rw [List.length_take, List.length_drop, HS64.out]; omega
          have HSP := hid (show SB w4 w4.heap.size (some ⟨qb, 14, none⟩) (sizeL (sec k)) (partL (sec k)) from by
            have h0 := (HSB4.out.drop (k := 14) (c := cb) (by omega) (by omega)).take (sizeL (sec k)) (by omega)
            rw [if_neg (by omega), Option.map_some, Addr.add_lit, Nat.zero_add] at h0
            exact h0.fit)
          have HSC := hid (show (if beginsB (kindL (sec k)) = decide (k = e) then
              (if endsB (kindL (sec k)) = true then (if 1048576 < (rec ++ partL (sec k)).length then (recs, e) else scanL gn sec (n - (k + 1)) (k + 1) [] (recs ++ [rec ++ partL (sec k)]) (k + 1)) else scanL gn sec (n - (k + 1)) (k + 1) (rec ++ partL (sec k)) recs e) else (recs, e)) = R from by
            rw [← HR.out, scan_succ]
            by_cases hb : beginsB (kindL (sec k)) = decide (k = e)
            · rw [if_pos hb, if_pos (show validB gn k (sec k) = true ∧ beginsB (kindL (sec k)) = decide (k = e) from And.intro hv hb)]
            · rw [if_neg hb, if_neg (show ¬ (validB gn k (sec k) = true ∧ beginsB (kindL (sec k)) = decide (k = e)) from fun h => hb h.2)])
          have hk14 : 1 ≤ kindL (sec k) ∧ kindL (sec k) ≤ 4 := by
            unfold allowsB at hall
            by_cases a1 : kindL (sec k) = 1
            · omega
            · by_cases a2 : kindL (sec k) = 2 ∨ kindL (sec k) = 3
              · omega
              · by_cases a4 : kindL (sec k) = 4
                · omega
                · rw [if_neg a1, if_neg a2, if_neg a4] at hall; cases hall
          clear HR hv hall HSB4
          generalize partL (sec k) = part at HSP HSC hpl
          generalize sizeL (sec k) = pz at HSP hpl hn49 ⊢
          generalize kindL (sec k) = kd at HSC hk14 ⊢
          have HG6 := hid HO4.out.block
          have hT4 : w.heap.size < w4.heap.size := HA4.out.lt
          by_cases tk : kd = 1
          · have q1 : ((kd : Int) == 0) = false := by simp; omega
            have r1 : ((kd : Int) == 1) = true := by simp [tk]
            have r3 : ((kd : Int) == 3) = false := by simp [tk]
            have r4 : ((kd : Int) == 4) = false := by simp [tk]
            have TKX := hid tk
            clear tk
            by_cases ke : k = e
            · have q2 : ¬ (e : Int) < (k : Int) := by omega
              have q2d : decide (e < k) = false := by simp; omega
              have KE := hid ke
              clear ke
              have HR2 := hid (show (if 1048576 < (rec ++ part).length then (recs, e) else scanL gn sec (n - (k + 1)) (k + 1) [] (recs ++ [rec ++ part]) (k + 1)) = R from by
                have h := HSC.out
                rw [if_pos (by simp [beginsB, TKX.out, KE.out]), if_pos (by simp [endsB, TKX.out])] at h
                exact h)
              clear HSC
              go_wp2_with (at_builtin; refine Held.go ?_)
              refine wpList_append_bytes _ rfl _ _ 34 rfl 5 Try.underlying34 info5' (w.heap.size + 1) _ rec.length rec rfl HO4.out _ (some ⟨qb, 14, none⟩) pz (cb - 14) part rfl HSP.out (by omega) (by omega) ?_
              intro v6 w6 h6 hg6 hm6
              have hl6 : (rec ++ part).length = rec.length + pz := by rw [List.length_append, hpl]
              have HF6 := hid (far_moved HL4.out HF.out hm6)
              have HL6 := hid (HL4.out.grown hg6 HF.out)
              have HB6 := hid (HB4.out.trans (below_of_grown hg6 HB4.out.size (fun b e => by have := (HG6.out b e).1; omega)))
              have HA6 := hid (HA4.out.grown hg6 (fun e => by have := (HG6.out _ e).1; omega))
              rw [← hl6] at h6
              have HO6 := hid h6
              have hl7 : (rec ++ part).length ≤ 49 * (k + 1) := by omega
              generalize rec ++ part = rec2 at HO6 HR2 hl7
              clear h6 hg6 hm6 hl6 HO4 HL4 HB4 HA4 HF HG6 hpl hrl HSP
              have HR3 := hid (show scanL gn sec (n - (k + 1)) (k + 1) [] (recs ++ [rec2]) (k + 1) = R from by have h := HR2.out; rw [if_neg (by omega)] at h; exact h)
              obtain ⟨A6, c6, rfl, -⟩ := HO6.out.sb
              clear HR2
              go_wp2_with (at_builtin; refine Held.go ?_)
              have hbn := below_new w6 (.cells #[Value.slice A6 rec2.length c6] 34)
              have hone := cell_one_new w6 (Value.slice A6 rec2.length c6) 34
              generalize w6.alloc (.cells #[Value.slice A6 rec2.length c6] 34) = w7 at hbn hone ⊢
              have HO7 := hid (HO6.out.keep hbn); have HL7 := hid (HL6.out.keep hbn); have HB7 := hid (HB6.out.trans (hbn.mono HB6.out.size)); have HA7 := hid (HA6.out.keep hbn)
              obtain ⟨i0, hi, hz0, hz1, hz2⟩ := info_parts info_row
              refine wpList_append_own_at w7 rfl _ _ 50 rfl (w.heap.size + 1) 34 i0 _ 1 24 Try.underlying50 hi hz0 hz1 hz2 rfl (by omega) _ recs.length vs rfl HL7.out.row ⟨w6.heap.size, 0, none⟩ 1 1 [Value.slice A6 rec2.length c6] rfl rfl hone (by simp [Value.oneCell']) (by simp [maxLen]; omega) (by omega) (by have := HA7.out.lt; omega) ?_
              intro v8 w8 h8 hg8 _ hm8
              have HL8 := hid (HL7.out.push HO7.out HF6.out h8 hg8 (hm8.imp id (fun h => ⟨_, h, Nat.le_refl _⟩)))
              have HB8 := hid (HB7.out.trans (below_of_grown hg8 HB7.out.size (fun b e => by have := (HL7.out.lt b (.inl e)).1; omega)))
              have HA8 := hid (HA7.out.grown hg8 (fun e => by have := (HL7.out.lt _ (.inl e)).1; omega))
              clear h8 hg8 hm8 HO7 HL7 HB7 HA7 hone hbn hi hz0 hz1 hz2 HO6 HL6 HB6 HA6 HF6
              have hk1 : IntKind.i64.wrap ((k : Int) + 1) = ((k + 1 : Nat) : Int) := by rw [IntWalk.i64_in _ (by omega)]; omega
              go_wp2_with fail
              go_roundw
              case rel => exact ⟨k + 1, k + 1, [], recs ++ [rec2], _, by omega, by go_num, by go_num, by omega, by simp, by simp; omega, hid (Own.nil _ _ _), HL8, hid (far_none _ _), HB8, HA8, HR3⟩
              case measure => simp [intOf]; omega
            · have q2 : (e : Int) < (k : Int) := by omega
              have q2d : decide (e < k) = true := by simp; omega
              have KE := hid ke
              clear ke
              have HRE := hid (show (recs, e) = R from by
                have h := HSC.out
                rw [if_neg (by simp [beginsB, TKX.out, KE.out])] at h
                exact h)
              have HRF := hid (show (e : Int) = (R.2 : Int) from by rw [← HRE.out])
              clear HO4 HA4 HSP HSC HF HG6
              go_wp2_with fail
              go_ret3
              first
                | refine ⟨_, vs, ?_, (show Recs _ _ _ R.1 vs from by rw [← HRE.out]; exact HL4.out.lower (Nat.le_succ _)), HB4.out⟩
                | refine ⟨_, ?_, ⟨vs, (show Recs _ _ _ R.1 vs from by rw [← HRE.out]; exact HL4.out.lower (Nat.le_succ _))⟩, HB4.out⟩
              rw [← HRF.out, HE.out]; rfl
          by_cases tk : kd = 2
          · have q1 : ((kd : Int) == 0) = false := by simp; omega
            have r1 : ((kd : Int) == 1) = false := by simp [tk]
            have r3 : ((kd : Int) == 3) = false := by simp [tk]
            have r4 : ((kd : Int) == 4) = false := by simp [tk]
            have TKX := hid tk
            clear tk
            by_cases ke : k = e
            · have q2 : ¬ (e : Int) < (k : Int) := by omega
              have q2d : decide (e < k) = false := by simp; omega
              have KE := hid ke
              clear ke
              have HR2 := hid (show scanL gn sec (n - (k + 1)) (k + 1) (rec ++ part) recs e = R from by
                have h := HSC.out
                rw [if_pos (by simp [beginsB, TKX.out, KE.out]), if_neg (by simp [endsB, TKX.out])] at h
                exact h)
              clear HSC
              go_wp2_with (at_builtin; refine Held.go ?_)
              refine wpList_append_bytes _ rfl _ _ 34 rfl 5 Try.underlying34 info5' (w.heap.size + 1) _ rec.length rec rfl HO4.out _ (some ⟨qb, 14, none⟩) pz (cb - 14) part rfl HSP.out (by omega) (by omega) ?_
              intro v6 w6 h6 hg6 hm6
              have hl6 : (rec ++ part).length = rec.length + pz := by rw [List.length_append, hpl]
              have HF6 := hid (far_moved HL4.out HF.out hm6)
              have HL6 := hid (HL4.out.grown hg6 HF.out)
              have HB6 := hid (HB4.out.trans (below_of_grown hg6 HB4.out.size (fun b e => by have := (HG6.out b e).1; omega)))
              have HA6 := hid (HA4.out.grown hg6 (fun e => by have := (HG6.out _ e).1; omega))
              rw [← hl6] at h6
              have HO6 := hid h6
              have hl7 : (rec ++ part).length ≤ 49 * (k + 1) := by omega
              generalize rec ++ part = rec2 at HO6 HR2 hl7
              clear h6 hg6 hm6 hl6 HO4 HL4 HB4 HA4 HF HG6 hpl hrl HSP
              go_wp2_with fail
              go_roundw
              case rel => exact ⟨k + 1, e, rec2, recs, vs, by omega, by go_num, rfl, by omega, hl7, by omega, HO6, HL6, HF6, HB6, HA6, HR2⟩
              case measure => simp [intOf]; omega
            · have q2 : (e : Int) < (k : Int) := by omega
              have q2d : decide (e < k) = true := by simp; omega
              have KE := hid ke
              clear ke
              have HRE := hid (show (recs, e) = R from by
                have h := HSC.out
                rw [if_neg (by simp [beginsB, TKX.out, KE.out])] at h
                exact h)
              have HRF := hid (show (e : Int) = (R.2 : Int) from by rw [← HRE.out])
              clear HO4 HA4 HSP HSC HF HG6
              go_wp2_with fail
              go_ret3
              first
                | refine ⟨_, vs, ?_, (show Recs _ _ _ R.1 vs from by rw [← HRE.out]; exact HL4.out.lower (Nat.le_succ _)), HB4.out⟩
                | refine ⟨_, ?_, ⟨vs, (show Recs _ _ _ R.1 vs from by rw [← HRE.out]; exact HL4.out.lower (Nat.le_succ _))⟩, HB4.out⟩
              rw [← HRF.out, HE.out]; rfl
          by_cases tk : kd = 3
          · have q1 : ((kd : Int) == 0) = false := by simp; omega
            have r1 : ((kd : Int) == 1) = false := by simp [tk]
            have r3 : ((kd : Int) == 3) = true := by simp [tk]
            have r4 : ((kd : Int) == 4) = false := by simp [tk]
            have TKX := hid tk
            clear tk
            by_cases ke : k = e
            · have q2 : ¬ (e : Int) < (k : Int) := by omega
              have q2d : decide (e < k) = false := by simp; omega
              have KE := hid ke
              clear ke
              have HRE := hid (show (recs, e) = R from by
                have h := HSC.out
                rw [if_neg (by simp [beginsB, TKX.out, KE.out])] at h
                exact h)
              have HRF := hid (show (e : Int) = (R.2 : Int) from by rw [← HRE.out])
              clear HO4 HA4 HSP HSC HF HG6
              go_wp2_with fail
              go_ret3
              first
                | refine ⟨_, vs, ?_, (show Recs _ _ _ R.1 vs from by rw [← HRE.out]; exact HL4.out.lower (Nat.le_succ _)), HB4.out⟩
                | refine ⟨_, ?_, ⟨vs, (show Recs _ _ _ R.1 vs from by rw [← HRE.out]; exact HL4.out.lower (Nat.le_succ _))⟩, HB4.out⟩
              rw [← HRF.out, HE.out]; rfl
            · have q2 : (e : Int) < (k : Int) := by omega
              have q2d : decide (e < k) = true := by simp; omega
              have KE := hid ke
              clear ke
              have HR2 := hid (show scanL gn sec (n - (k + 1)) (k + 1) (rec ++ part) recs e = R from by
                have h := HSC.out
                rw [if_pos (by simp [beginsB, TKX.out, KE.out]), if_neg (by simp [endsB, TKX.out])] at h
                exact h)
              clear HSC
              go_wp2_with (at_builtin; refine Held.go ?_)
              refine wpList_append_bytes _ rfl _ _ 34 rfl 5 Try.underlying34 info5' (w.heap.size + 1) _ rec.length rec rfl HO4.out _ (some ⟨qb, 14, none⟩) pz (cb - 14) part rfl HSP.out (by omega) (by omega) ?_
              intro v6 w6 h6 hg6 hm6
              have hl6 : (rec ++ part).length = rec.length + pz := by rw [List.length_append, hpl]
              have HF6 := hid (far_moved HL4.out HF.out hm6)
              have HL6 := hid (HL4.out.grown hg6 HF.out)
              have HB6 := hid (HB4.out.trans (below_of_grown hg6 HB4.out.size (fun b e => by have := (HG6.out b e).1; omega)))
              have HA6 := hid (HA4.out.grown hg6 (fun e => by have := (HG6.out _ e).1; omega))
              rw [← hl6] at h6
              have HO6 := hid h6
              have hl7 : (rec ++ part).length ≤ 49 * (k + 1) := by omega
              generalize rec ++ part = rec2 at HO6 HR2 hl7
              clear h6 hg6 hm6 hl6 HO4 HL4 HB4 HA4 HF HG6 hpl hrl HSP
              go_wp2_with fail
              go_roundw
              case rel => exact ⟨k + 1, e, rec2, recs, vs, by omega, by go_num, rfl, by omega, hl7, by omega, HO6, HL6, HF6, HB6, HA6, HR2⟩
              case measure => simp [intOf]; omega
          by_cases tk : kd = 4
          · have q1 : ((kd : Int) == 0) = false := by simp; omega
            have r1 : ((kd : Int) == 1) = false := by simp [tk]
            have r3 : ((kd : Int) == 3) = false := by simp [tk]
            have r4 : ((kd : Int) == 4) = true := by simp [tk]
            have TKX := hid tk
            clear tk
            by_cases ke : k = e
            · have q2 : ¬ (e : Int) < (k : Int) := by omega
              have q2d : decide (e < k) = false := by simp; omega
              have KE := hid ke
              clear ke
              have HRE := hid (show (recs, e) = R from by
                have h := HSC.out
                rw [if_neg (by simp [beginsB, TKX.out, KE.out])] at h
                exact h)
              have HRF := hid (show (e : Int) = (R.2 : Int) from by rw [← HRE.out])
              clear HO4 HA4 HSP HSC HF HG6
              go_wp2_with fail
              go_ret3
              first
                | refine ⟨_, vs, ?_, (show Recs _ _ _ R.1 vs from by rw [← HRE.out]; exact HL4.out.lower (Nat.le_succ _)), HB4.out⟩
                | refine ⟨_, ?_, ⟨vs, (show Recs _ _ _ R.1 vs from by rw [← HRE.out]; exact HL4.out.lower (Nat.le_succ _))⟩, HB4.out⟩
              rw [← HRF.out, HE.out]; rfl
            · have q2 : (e : Int) < (k : Int) := by omega
              have q2d : decide (e < k) = true := by simp; omega
              have KE := hid ke
              clear ke
              have HR2 := hid (show (if 1048576 < (rec ++ part).length then (recs, e) else scanL gn sec (n - (k + 1)) (k + 1) [] (recs ++ [rec ++ part]) (k + 1)) = R from by
                have h := HSC.out
                rw [if_pos (by simp [beginsB, TKX.out, KE.out]), if_pos (by simp [endsB, TKX.out])] at h
                exact h)
              clear HSC
              go_wp2_with (at_builtin; refine Held.go ?_)
              refine wpList_append_bytes _ rfl _ _ 34 rfl 5 Try.underlying34 info5' (w.heap.size + 1) _ rec.length rec rfl HO4.out _ (some ⟨qb, 14, none⟩) pz (cb - 14) part rfl HSP.out (by omega) (by omega) ?_
              intro v6 w6 h6 hg6 hm6
              have hl6 : (rec ++ part).length = rec.length + pz := by rw [List.length_append, hpl]
              have HF6 := hid (far_moved HL4.out HF.out hm6)
              have HL6 := hid (HL4.out.grown hg6 HF.out)
              have HB6 := hid (HB4.out.trans (below_of_grown hg6 HB4.out.size (fun b e => by have := (HG6.out b e).1; omega)))
              have HA6 := hid (HA4.out.grown hg6 (fun e => by have := (HG6.out _ e).1; omega))
              rw [← hl6] at h6
              have HO6 := hid h6
              have hl7 : (rec ++ part).length ≤ 49 * (k + 1) := by omega
              generalize rec ++ part = rec2 at HO6 HR2 hl7
              clear h6 hg6 hm6 hl6 HO4 HL4 HB4 HA4 HF HG6 hpl hrl HSP
              have HR3 := hid (show scanL gn sec (n - (k + 1)) (k + 1) [] (recs ++ [rec2]) (k + 1) = R from by have h := HR2.out; rw [if_neg (by omega)] at h; exact h)
              obtain ⟨A6, c6, rfl, -⟩ := HO6.out.sb
              clear HR2
              go_wp2_with (at_builtin; refine Held.go ?_)
              have hbn := below_new w6 (.cells #[Value.slice A6 rec2.length c6] 34)
              have hone := cell_one_new w6 (Value.slice A6 rec2.length c6) 34
              generalize w6.alloc (.cells #[Value.slice A6 rec2.length c6] 34) = w7 at hbn hone ⊢
              have HO7 := hid (HO6.out.keep hbn); have HL7 := hid (HL6.out.keep hbn); have HB7 := hid (HB6.out.trans (hbn.mono HB6.out.size)); have HA7 := hid (HA6.out.keep hbn)
              obtain ⟨i0, hi, hz0, hz1, hz2⟩ := info_parts info_row
              refine wpList_append_own_at w7 rfl _ _ 50 rfl (w.heap.size + 1) 34 i0 _ 1 24 Try.underlying50 hi hz0 hz1 hz2 rfl (by omega) _ recs.length vs rfl HL7.out.row ⟨w6.heap.size, 0, none⟩ 1 1 [Value.slice A6 rec2.length c6] rfl rfl hone (by simp [Value.oneCell']) (by simp [maxLen]; omega) (by omega) (by have := HA7.out.lt; omega) ?_
              intro v8 w8 h8 hg8 _ hm8
              have HL8 := hid (HL7.out.push HO7.out HF6.out h8 hg8 (hm8.imp id (fun h => ⟨_, h, Nat.le_refl _⟩)))
              have HB8 := hid (HB7.out.trans (below_of_grown hg8 HB7.out.size (fun b e => by have := (HL7.out.lt b (.inl e)).1; omega)))
              have HA8 := hid (HA7.out.grown hg8 (fun e => by have := (HL7.out.lt _ (.inl e)).1; omega))
              clear h8 hg8 hm8 HO7 HL7 HB7 HA7 hone hbn hi hz0 hz1 hz2 HO6 HL6 HB6 HA6 HF6
              have hk1 : IntKind.i64.wrap ((k : Int) + 1) = ((k + 1 : Nat) : Int) := by rw [IntWalk.i64_in _ (by omega)]; omega
              go_wp2_with fail
              go_roundw
              case rel => exact ⟨k + 1, k + 1, [], recs ++ [rec2], _, by omega, by go_num, by go_num, by omega, by simp, by simp; omega, hid (Own.nil _ _ _), HL8, hid (far_none _ _), HB8, HA8, HR3⟩
              case measure => simp [intOf]; omega
          omega
      · obtain rfl : k = n := by omega
        have q0 : ¬ (k : Int) < (k : Int) := by omega
        have HRE := hid (show (recs, e) = R from by have := HR.out; rw [Nat.sub_self] at this; exact this)
        have HRF := hid (show (e : Int) = (R.2 : Int) from by rw [← HRE.out])
        clear HO HF HR
        go_wp2_with fail
        go_ret3
        first
          | refine ⟨_, vs, ?_, (show Recs _ _ _ R.1 vs from by rw [← HRE.out]; exact HL.out.lower (Nat.le_succ _)), HB.out⟩
          | refine ⟨_, ?_, ⟨vs, (show Recs _ _ _ R.1 vs from by rw [← HRE.out]; exact HL.out.lower (Nat.le_succ _))⟩, HB.out⟩
        rw [← HRF.out, HE.out]; rfl
  · rw [if_neg (fun h => hC h.1)] at HR
    rw [if_neg hC] at HE
    generalize checkE s.n ⟨x, y, z⟩ = ce at HCK hC HE
    have q1 : (((ce : Int)) != 0) = true := by simp; omega
    clear h
    go_enter Try.func31, Try.ntmps31
    go_wp2_with fail
    generalize w.alloc (.cells #[.int .i64 x, .int .i64 y, .int .i64 z] 33) = w1 at HB1 ⊢
    refine (HCK.out w1 HB1.out).mono ?_
    rintro _ w2 ⟨rfl, hb2⟩
    have HB2 := hid (HB1.out.trans (hb2.mono HB1.out.size))
    clear hb2
    go_wp2_with fail
    go_ret3
    exact ⟨_, [], by rw [HE.out, HR.out]; rfl, by rw [HR.out]; exact Recs.nil _ _, HB2.out⟩
end
end Go.Proofs.Ytiejndkchcljdaa
