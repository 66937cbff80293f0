/- Contract: a reader of the plain reference: Num, where a number of several bytes is read. -/
import Derived.Test.YtcpkjpeimnaimaaWrRefRd
import Derived.Test.YtcpkjpeimnaimaaWrRefPut
import Derived.Test.YtcpkjpeimnaimaaWrParse
import Derived.Test.YtcpkjpeimnaimaaRegInvG
import Derived.Test.YtcpkjpeimnaimaaAppS
import Derived.IntWalk
import Derived.Test.YtcpkjpeimnaimaaWrPart
import Derived.Test.YtcpkjpeimnaimaaWrOwnR2
namespace Go.Proofs.Ytcpkjpeimnaimaa
open Go.RowKit

/-- the number that so many bytes are, if it is one -/
@[irreducible] def longS (K V a : Nat) : Nat × Nat × RS := if 9223372036854775808 ≤ V ∨ encSize V ≠ 1 + K then (0, a, .bad 5 a) else (V, a + 1 + K, .ok (a + 1 + K))
theorem longS_numS0 {bs : List UInt8} {a : Nat} {x : UInt8} (hx : bs[a]? = some x) (h1 : 192 ≤ x.toNat) (h2 : x.toNat ≤ 199) (h3 : x.toNat - 191 ≤ bs.length - a - 1) :
    numS0 bs a = ((longS (x.toNat - 191) (valB ((bs.drop (a + 1)).take (x.toNat - 191))) a).1, (longS (x.toNat - 191) (valB ((bs.drop (a + 1)).take (x.toNat - 191))) a).2.2) := by
  have hl : a < bs.length := (List.getElem?_eq_some_iff.1 hx).1
  have hd : bs.drop a = x :: bs.drop (a + 1) := by
    rw [List.drop_eq_getElem_cons hl]
    have := (List.getElem?_eq_some_iff.1 hx).2
    rw [this]
  generalize hV : valB ((bs.drop (a + 1)).take (x.toNat - 191)) = V
  have hdn : decN (bs.drop a) = if 9223372036854775808 ≤ V ∨ encSize V ≠ 1 + (x.toNat - 191) then (0, 0, 5) else (V, 1 + (x.toNat - 191), 0) := by
    rw [hd]
    simp only [decN]
    rw [if_neg (by omega), if_neg (by omega), if_neg (by rw [List.length_drop]; omega), hV]
  unfold numS0 longS
  rw [hdn]
  by_cases h : 9223372036854775808 ≤ V ∨ encSize V ≠ 1 + (x.toNat - 191)
  · rw [if_pos h, if_pos h]; rfl
  · rw [if_neg h, if_neg h, if_pos rfl, Nat.add_assoc]
theorem long_text {bs : List UInt8} {a K : Nat} {x : UInt8} (hx : bs[a]? = some x) (hK : x.toNat = K + 191) (hK1 : 1 ≤ K) (hl : K ≤ bs.length - a - 1) (V : Nat) (hV : V = valB ((bs.drop (a + 1)).take K)) (h6 : V < 9223372036854775808) (h192 : 192 ≤ V) :
    (enc V = (bs.drop a).take (1 + K)) ↔ encSize V = 1 + K := by
  have hla : a < bs.length := (List.getElem?_eq_some_iff.1 hx).1
  have hd : bs.drop a = x :: bs.drop (a + 1) := by
    rw [List.drop_eq_getElem_cons hla]
    have := (List.getElem?_eq_some_iff.1 hx).2
    rw [this]
  have hlen : ((bs.drop a).take (1 + K)).length = 1 + K := by rw [List.length_take, List.length_drop]; omega
  constructor
  · intro h
    rw [← enc_length, h, hlen]
  · intro h
    have hdn : decN (bs.drop a) = (V, 1 + K, 0) := by
      rw [hd]
      simp only [decN]
      rw [show x.toNat - 191 = K by omega, if_neg (by omega), if_neg (by have := x.toNat_lt; have := encSize_le (n := V) (by omega); omega), if_neg (by rw [List.length_drop]; omega), ← hV, if_neg (by omega)]
    exact (enc_dec _ hdn).2.2.2.1
def rn2Val (V : Nat) : Nat → Value → Value
  | 0, _ => .int .u64 (V : Int)
  | 1, _ => .bool false
  | 2, _ => .bool false
  | 3, _ => .int .u64 (V : Int)
  | 4, _ => .bool true
  | 5, _ => .bool true
  | 6, _ => .bool true
  | 7, _ => undef
  | 8, _ => undef
  | 9, _ => undef
  | 10, _ => undef
  | 11, _ => undef
  | 12, _ => undef
  | 13, _ => undef
  | 14, _ => undef
  | 15, _ => undef
  | 16, _ => undef
  | 17, _ => undef
  | 18, _ => undef
  | 19, _ => undef
  | 20, _ => undef
  | 21, _ => undef
  | 22, _ => undef
  | 23, _ => .bool true
  | _, _ => undef
section
variable (g B n c : Nat) (A : Option Addr) (bs : List UInt8) (a : Nat) (w : World)
set_option maxRecDepth 20000 in
set_option maxHeartbeats 1000000 in
theorem refRNum_wrong (x : UInt8) (hx : bs[a]? = some x) (hx2 : 192 ≤ x.toNat) (hx3 : x.toNat ≤ 199) (hx4 : x.toNat - 191 ≤ n - a - 1) (h : RrB w g B n c A bs a (.ok a)) (hbad : 9223372036854775808 ≤ valB ((bs.drop (a + 1)).take (x.toNat - 191)) ∨ valB ((bs.drop (a + 1)).take (x.toNat - 191)) < 192) :
    Calls Try.prog 37 #[.pointer (some ⟨g, 0, none⟩)] w (RnPost g B n c A bs w (.int .i64 ((longS (x.toNat - 191) (valB ((bs.drop (a + 1)).take (x.toNat - 191))) a).1 : Int)) (longS (x.toNat - 191) (valB ((bs.drop (a + 1)).take (x.toNat - 191))) a).2.1 (longS (x.toNat - 191) (valB ((bs.drop (a + 1)).take (x.toNat - 191))) a).2.2) := by
  have HF := hid (refFail_calls g B n c A bs a (.ok a) 5 a w h (by omega) h.2.2.2.1)
  have HFD := hid (refFail_calls g B n c A bs a (.ok a) 5 a w.drew h.drew (by omega) h.2.2.2.1)
  have HH := hid h
  obtain ⟨hb, hs, hB, ha, hn, hg, hok⟩ := h
  have hlt : a < n := by rw [← hs.1]; exact (List.getElem?_eq_some_iff.1 hx).1
  have HLB := hid hs.1
  have HSB := hid hs
  obtain ⟨b, off, rfl, hbB, hc⟩ := hs.2 (by omega)
  have cx := hc a x hx
  have d0 : w.cell? ⟨g, 0, none⟩ = some (.slice (some ⟨b, off, none⟩) n c) := hb.cell 0 rfl
  have d1 : w.cell? ⟨g, 1, none⟩ = some (.int .i64 (a : Int)) := hb.cell 1 rfl
  have d2 : w.cell? ⟨g, 2, none⟩ = some (.int .i64 0) := hb.cell 2 rfl
  have q0 : ¬ (n : Int) ≤ (a : Int) := by omega
  have q2 : (a : Int) < (n : Int) := by omega
  have q1 : ¬ (x.toNat : Int) < 192 := by omega
  have q3 : ¬ (199 : Int) < (x.toNat : Int) := by omega
  have q4 : ¬ (n : Int) - (a : Int) - 1 < (x.toNat : Int) - 191 := by omega
  have HX := hid hx
  have HC := hid hc
  obtain ⟨K, hK⟩ : ∃ K, x.toNat - 191 = K := ⟨_, rfl⟩
  have hxK : x.toNat = K + 191 := by omega
  rw [hK] at hbad ⊢
  have HBAD := hid hbad
  clear hbad
  generalize hLS : longS K (valB ((bs.drop (a + 1)).take K)) a = L
  have HLS := hid hLS
  clear hLS
  clear hb hs hok hg hc hx
  unfold bv at cx
  generalize x.toNat = y at *
  have q5 : y < 256 := by omega
  have HYK := hid (show (y : Int) = (K : Int) + 191 from by omega)
  have HK8 := hid (show K ≤ 8 ∧ 1 ≤ K ∧ a + 1 + K ≤ n from by omega)
  clear hK hxK hx2 hx3 hx4
  go_enter Try.func37, Try.ntmps37
  go_wp2_with fail
  go_loop [6, 7] (fun v6 v7 => ∃ k : Nat, k ≤ K ∧ v7 = .int .i64 ((k : Int) + 1) ∧ v6 = .int .u64 (valB ((bs.drop (a + 1)).take k) : Int)) (fun _ v7 => K + 1 - (intOf v7).toNat)
  case atStart => exact ⟨0, Nat.zero_le _, rfl, rfl⟩
  case round =>
    obtain ⟨k, hk, rfl, rfl⟩ := hrel
    have hK8 := HK8.out
    have hyK := HYK.out
    by_cases hlt : k < K
    · have q9 : (k : Int) + 1 ≤ (y : Int) - 191 := by omega
      have hjl : a + (k + 1) < bs.length := by have := HLB.out; omega
      have hy : bs[a + (k + 1)]? = some bs[a + (k + 1)] := List.getElem?_eq_getElem hjl
      have hcy := HC.out _ _ hy
      have hy2 : (bs.drop (a + 1))[k]? = some bs[a + (k + 1)] := by rw [List.getElem?_drop, show a + 1 + k = a + (k + 1) by omega]; exact hy
      have HS := hid (show valB ((bs.drop (a + 1)).take (k + 1)) = valB ((bs.drop (a + 1)).take k) * 256 + (bs[a + (k + 1)]).toNat from by rw [valB, take_next_v _ _ _ hy2]; rfl)
      have hv := valB_lt ((bs.drop (a + 1)).take k)
      rw [List.length_take, List.length_drop, Nat.min_eq_left (by omega)] at hv
      have hv2 : valB ((bs.drop (a + 1)).take k) < 72057594037927936 := Nat.lt_of_lt_of_le hv (p256_mono (k := 7) (by omega))
      have q10 : (a : Int) + ((k : Int) + 1) < (n : Int) := by omega
      have hak : (a : Int) + ((k : Int) + 1) = ((a + (k + 1) : Nat) : Int) := by omega
      clear hv hy hy2 hyK hK8
      have hyl := (bs[a + (k + 1)]).toNat_lt
      simp only [bv] at hcy
      generalize valB ((bs.drop (a + 1)).take k) = V at HS hv2 ⊢
      generalize (bs[a + (k + 1)]).toNat = z at HS hcy hyl ⊢
      have HO := hid (show bits .or .u64 ((V : Int) * 256) (z : Int) = ((V * 256 + z : Nat) : Int) from by
        have := u64_or_nat (V * 256) z (by omega) (by omega)
        rw [shl_or V z (by omega), Int.natCast_mul] at this
        exact this)
      clear hak
      go_wp2_with fail
      refine ⟨⟨k + 1, by omega, by go_num, val_int (by rw [HO.out, HS.out])⟩, ?_⟩
      simp [intOf]; omega
    · obtain rfl : k = K := by omega
      have q9 : ¬ (k : Int) + 1 ≤ (y : Int) - 191 := by omega
      have hv := valB_lt ((bs.drop (a + 1)).take k)
      generalize valB ((bs.drop (a + 1)).take k) = V at HLS HBAD hv ⊢
      have HVL := hid hv
      clear hv hyK hK8 hlt hk
      by_cases hbig : 9223372036854775808 ≤ V
      · have q10 : (9223372036854775808 : Int) ≤ (V : Int) := by omega
        obtain rfl : L = (0, a, .bad 5 a) := by rw [← HLS.out]; unfold longS; rw [if_pos (.inl hbig)]
        clear HLS hbig
        go_wp2_with fail
        go_region
        go_wp2_with fail
        refine HFD.out.mono ?_
        rintro _ w1 ⟨rfl, h1, k1⟩
        have HK := hid (And.intro h1 k1.from_drew)
        clear h1 k1
        go_wp2_with fail
        go_ret
        exact ⟨rfl, HK.out.1, HK.out.2⟩
      · by_cases hsm : V < 192
        · have q10 : ¬ (9223372036854775808 : Int) ≤ (V : Int) := by omega
          have q11 : (V : Int) < 192 := by omega
          obtain rfl : L = (0, a, .bad 5 a) := by
            rw [← HLS.out]; unfold longS
            rw [if_pos (.inr (by rw [encSize_one hsm]; have := HK8.out; omega))]
          clear HLS hbig
          go_wp2_with fail
          refine wp_region_invG 123 (.pointer none) (rn2Val V) (fun _ _ W => W = w.drew) (by kernel_rfl) (by kernel_rfl) (by exact Nat.le_refl 123) ?_ ?_ ?_
          · exact rfl
          · intro i o f gh a W hi hf hdep hsame hcl hval hS
            rcases i with _ | _ | _ | _ | _ | _ | _ | _ | _ | _ | _ | _ | _ | _ | _ | _ | _ | _ | _ | _ | _ | _ | _ | _ | i
            all_goals simp only [List.getElem?_cons_succ, List.getElem?_cons_zero, List.getElem?_nil, Option.some.injEq, reduceCtorEq] at hi
            all_goals subst hi
            · have E6 : a.tmps[6]? = some (.int .u64 (V : Int)) := (same_of hsame 6 (by rfl)).trans rfl
              refine g_plain rfl ?_
              exact does_value (w' := W) (v := .int .u64 (V : Int)) (by go_simp) ⟨(.pointer none), .inr rfl, hS⟩
            · have E87 := hval 0 _ 87 rfl rfl (dep_of hdep 0 (by rfl))
              unfold rn2Val at E87
              refine g_plain rfl ?_
              exact does_value (w' := W) (v := .bool false) (by go_simp) ⟨(.pointer none), .inr rfl, hS⟩
            · have E88 := hval 1 _ 88 rfl rfl (dep_of hdep 1 (by rfl))
              unfold rn2Val at E88
              refine g_plain rfl ?_
              exact does_value (w' := W) (v := .bool false) (by go_simp) ⟨(.pointer none), .inr rfl, hS⟩
            · have EG := hval 2 _ 89 rfl rfl (dep_of hdep 2 (by rfl))
              have E6 : a.tmps[6]? = some (.int .u64 (V : Int)) := (same_of hsame 6 (by rfl)).trans rfl
              unfold rn2Val at EG
              refine g_want rfl rfl rfl EG ?_
              exact does_value (w' := W) (v := .int .u64 (V : Int)) (by go_simp) ⟨(.pointer none), .inr rfl, hS⟩
            · have EG := hval 2 _ 89 rfl rfl (dep_of hdep 2 (by rfl))
              have E90 := hval 3 _ 90 rfl rfl (dep_of hdep 3 (by rfl))
              unfold rn2Val at EG E90
              refine g_want rfl rfl rfl EG ?_
              exact does_value (w' := W) (v := .bool true) (by go_simp) ⟨(.pointer none), .inr rfl, hS⟩
            · have E89 := hval 2 _ 89 rfl rfl (dep_of hdep 2 (by rfl))
              have E91 := hval 4 _ 91 rfl rfl (dep_of hdep 4 (by rfl))
              unfold rn2Val at E89 E91
              refine g_plain rfl ?_
              exact does_value (w' := W) (v := .bool true) (by go_simp) ⟨(.pointer none), .inr rfl, hS⟩
            · have E92 := hval 5 _ 92 rfl rfl (dep_of hdep 5 (by rfl))
              unfold rn2Val at E92
              refine g_plain rfl ?_
              exact does_value (w' := W) (v := .bool true) (by go_simp) ⟨(.pointer none), .inr rfl, hS⟩
            · have EG := hval 6 _ 93 rfl rfl (dep_of hdep 6 (by rfl))
              unfold rn2Val at EG
              exact g_skip rfl rfl rfl EG rfl ⟨(.pointer none), .inr rfl, hS⟩
            · have EG := hval 6 _ 93 rfl rfl (dep_of hdep 6 (by rfl))
              unfold rn2Val at EG
              exact g_skip rfl rfl rfl EG rfl ⟨(.pointer none), .inr rfl, hS⟩
            · have EG := hval 6 _ 93 rfl rfl (dep_of hdep 6 (by rfl))
              unfold rn2Val at EG
              exact g_skip rfl rfl rfl EG rfl ⟨(.pointer none), .inr rfl, hS⟩
            · have EG := hval 6 _ 93 rfl rfl (dep_of hdep 6 (by rfl))
              unfold rn2Val at EG
              exact g_skip rfl rfl rfl EG rfl ⟨(.pointer none), .inr rfl, hS⟩
            · have EG := hval 6 _ 93 rfl rfl (dep_of hdep 6 (by rfl))
              unfold rn2Val at EG
              exact g_skip rfl rfl rfl EG rfl ⟨(.pointer none), .inr rfl, hS⟩
            · have EG := hval 6 _ 93 rfl rfl (dep_of hdep 6 (by rfl))
              unfold rn2Val at EG
              exact g_skip rfl rfl rfl EG rfl ⟨(.pointer none), .inr rfl, hS⟩
            · have EG := hval 6 _ 93 rfl rfl (dep_of hdep 6 (by rfl))
              unfold rn2Val at EG
              exact g_skip rfl rfl rfl EG rfl ⟨(.pointer none), .inr rfl, hS⟩
            · have EG := hval 6 _ 93 rfl rfl (dep_of hdep 6 (by rfl))
              unfold rn2Val at EG
              exact g_skip rfl rfl rfl EG rfl ⟨(.pointer none), .inr rfl, hS⟩
            · have EG := hval 6 _ 93 rfl rfl (dep_of hdep 6 (by rfl))
              unfold rn2Val at EG
              exact g_skip rfl rfl rfl EG rfl ⟨(.pointer none), .inr rfl, hS⟩
            · have EG := hval 6 _ 93 rfl rfl (dep_of hdep 6 (by rfl))
              unfold rn2Val at EG
              exact g_skip rfl rfl rfl EG rfl ⟨(.pointer none), .inr rfl, hS⟩
            · have EG := hval 6 _ 93 rfl rfl (dep_of hdep 6 (by rfl))
              unfold rn2Val at EG
              exact g_skip rfl rfl rfl EG rfl ⟨(.pointer none), .inr rfl, hS⟩
            · have EG := hval 6 _ 93 rfl rfl (dep_of hdep 6 (by rfl))
              unfold rn2Val at EG
              exact g_skip rfl rfl rfl EG rfl ⟨(.pointer none), .inr rfl, hS⟩
            · have EG := hval 6 _ 93 rfl rfl (dep_of hdep 6 (by rfl))
              unfold rn2Val at EG
              exact g_skip rfl rfl rfl EG rfl ⟨(.pointer none), .inr rfl, hS⟩
            · have EG := hval 6 _ 93 rfl rfl (dep_of hdep 6 (by rfl))
              unfold rn2Val at EG
              exact g_skip rfl rfl rfl EG rfl ⟨(.pointer none), .inr rfl, hS⟩
            · have EG := hval 6 _ 93 rfl rfl (dep_of hdep 6 (by rfl))
              unfold rn2Val at EG
              exact g_skip rfl rfl rfl EG rfl ⟨(.pointer none), .inr rfl, hS⟩
            · have EG := hval 6 _ 93 rfl rfl (dep_of hdep 6 (by rfl))
              unfold rn2Val at EG
              exact g_skip rfl rfl rfl EG rfl ⟨(.pointer none), .inr rfl, hS⟩
            · have E93 := hval 6 _ 93 rfl rfl (dep_of hdep 6 (by rfl))
              have E109 := hval 22 _ 109 rfl rfl (dep_of hdep 22 (by rfl))
              unfold rn2Val at E93 E109
              refine g_plain rfl ?_
              exact does_value (w' := W) (v := .bool true) (by go_simp) ⟨(.pointer none), .inr rfl, hS⟩
          · intro gh W hS
            subst hS
            simp only [putAll, rn2Val, Nat.reduceAdd, Nat.zero_add, Act.put, List.setIfInBounds_toArray, List.set_cons_zero, List.set_cons_succ]
            go_wp2_with fail
            refine HFD.out.mono ?_
            rintro _ w1 ⟨rfl, h1, k1⟩
            have HK := hid (And.intro h1 k1.from_drew)
            clear h1 k1
            go_wp2_with fail
            go_ret
            exact ⟨rfl, HK.out.1, HK.out.2⟩
        · exact (HBAD.out.elim hbig hsm).elim
end
end Go.Proofs.Ytcpkjpeimnaimaa
/- Contract: a reader of the plain reference: Num, where a number of several bytes may be one. -/
namespace Go.Proofs.Ytcpkjpeimnaimaa
open Go.RowKit

structure RnS (w0 : World) (V : Nat) (f : Nat → Bool) (gh : Nat → Value) (W : World) : Prop where
  bel : Below w0.heap.size w0 W
  own : f 9 = true → Own W w0.heap.size 5 (gh 9) (encSize V) (enc V)
theorem RnS.step {w0 W : World} {V : Nat} {f : Nat → Bool} {gh : Nat → Value} (h : RnS w0 V f gh W) (i : Nat) (k : Value) (h9 : 9 ≠ i) : RnS w0 V (upd f i) (updN gh i k) W :=
  ⟨h.bel, by rw [ap_ne h9, apN_ne h9]; exact h.own⟩
theorem RnS.s9 {w0 W W' : World} {V : Nat} {f : Nat → Bool} {gh : Nat → Value} {v : Value} (h : RnS w0 V f gh W) (ho : Own W' W.heap.size 5 v (encSize V) (enc V)) (hb : Below W.heap.size W W') : RnS w0 V (upd f 9) (updN gh 9 v) W' :=
  ⟨h.bel.trans (hb.mono h.bel.size), fun _ => by rw [apN_eq]; exact ho.lower h.bel.size⟩
def rn3Val (b : Nat) (g : Nat) (n : Nat) (c : Nat) (k : Nat) (V : Nat) (at_ : Nat) (off : Nat) (r : Bool) (TK : List UInt8) : Nat → Value → Value
  | 0, _ => .int .u64 (V : Int)
  | 1, _ => .bool false
  | 2, _ => .bool false
  | 3, _ => .int .u64 (V : Int)
  | 4, _ => .bool false
  | 5, _ => .bool false
  | 6, _ => .bool false
  | 7, _ => .int .u64 (V : Int)
  | 8, _ => .int .i64 (V : Int)
  | 9, k => k
  | 10, _ => .string (strB (enc V))
  | 11, _ => .pointer (some ⟨g, 0, none⟩)
  | 12, _ => .pointer (some ⟨g, 0, none⟩)
  | 13, _ => .pointer (some ⟨g, 0, none⟩)
  | 14, _ => .slice (some ⟨b, off, none⟩) n c
  | 15, _ => .int .i64 (at_ : Int)
  | 16, _ => .int .i64 (at_ : Int)
  | 17, _ => .int .i64 ((at_ : Int) + 1)
  | 18, _ => .int .i64 (k : Int)
  | 19, _ => .int .i64 ((at_ : Int) + 1 + (k : Int))
  | 20, _ => .slice (some ⟨b, off + at_, none⟩) (1 + k) (c - at_)
  | 21, _ => .string (strB TK)
  | 22, _ => .bool r
  | 23, _ => .bool r
  | _, _ => undef
section
variable (g B n c : Nat) (A : Option Addr) (bs : List UInt8) (at_ : Nat) (w : World)
set_option maxRecDepth 20000 in
set_option maxHeartbeats 1000000 in
theorem refRNum_right (x : UInt8) (hx : bs[at_]? = some x) (hx2 : 192 ≤ x.toNat) (hx3 : x.toNat ≤ 199) (hx4 : x.toNat - 191 ≤ n - at_ - 1) (h : RrB w g B n c A bs at_ (.ok at_)) (hnc : n ≤ c) (hgood : valB ((bs.drop (at_ + 1)).take (x.toNat - 191)) < 9223372036854775808 ∧ 192 ≤ valB ((bs.drop (at_ + 1)).take (x.toNat - 191))) :
    Calls Try.prog 37 #[.pointer (some ⟨g, 0, none⟩)] w (RnPost g B n c A bs w (.int .i64 ((longS (x.toNat - 191) (valB ((bs.drop (at_ + 1)).take (x.toNat - 191))) at_).1 : Int)) (longS (x.toNat - 191) (valB ((bs.drop (at_ + 1)).take (x.toNat - 191))) at_).2.1 (longS (x.toNat - 191) (valB ((bs.drop (at_ + 1)).take (x.toNat - 191))) at_).2.2) := by
  have HF := hid (refFail_calls g B n c A bs at_ (.ok at_) 5 at_ w h (by omega) h.2.2.2.1)
  have HFD := hid (refFail_calls g B n c A bs at_ (.ok at_) 5 at_ w.drew h.drew (by omega) h.2.2.2.1)
  have HH := hid h
  obtain ⟨hb, hs, hB, ha, hn, hg, hok⟩ := h
  have hlt : at_ < n := by rw [← hs.1]; exact (List.getElem?_eq_some_iff.1 hx).1
  have HLB := hid hs.1
  have HSB := hid hs
  obtain ⟨b, off, rfl, hbB, hc⟩ := hs.2 (by omega)
  have cx := hc at_ x hx
  have d0 : w.cell? ⟨g, 0, none⟩ = some (.slice (some ⟨b, off, none⟩) n c) := hb.cell 0 rfl
  have d1 : w.cell? ⟨g, 1, none⟩ = some (.int .i64 (at_ : Int)) := hb.cell 1 rfl
  have d2 : w.cell? ⟨g, 2, none⟩ = some (.int .i64 0) := hb.cell 2 rfl
  have q0 : ¬ (n : Int) ≤ (at_ : Int) := by omega
  have q2 : (at_ : Int) < (n : Int) := by omega
  have q1 : ¬ (x.toNat : Int) < 192 := by omega
  have q3 : ¬ (199 : Int) < (x.toNat : Int) := by omega
  have q4 : ¬ (n : Int) - (at_ : Int) - 1 < (x.toNat : Int) - 191 := by omega
  have HX := hid hx
  have HC := hid hc
  obtain ⟨K, hK⟩ : ∃ K, x.toNat - 191 = K := ⟨_, rfl⟩
  have hxK : x.toNat = K + 191 := by omega
  have HLT := hid (fun V (hV : V = valB ((bs.drop (at_ + 1)).take K)) => long_text hx hxK (by omega) (by have := HLB.out; omega) V hV)
  rw [hK] at hgood ⊢
  have HGOOD := hid hgood
  clear hgood
  generalize hLS : longS K (valB ((bs.drop (at_ + 1)).take K)) at_ = L
  have HLS := hid hLS
  clear hLS
  clear hb hs hok hg hc hx
  unfold bv at cx
  generalize x.toNat = y at *
  have q5 : y < 256 := by omega
  have HYK := hid (show (y : Int) = (K : Int) + 191 from by omega)
  have HK8 := hid (show K ≤ 8 ∧ 1 ≤ K ∧ at_ + 1 + K ≤ n from by omega)
  clear hK hxK hx2 hx3 hx4
  go_enter Try.func37, Try.ntmps37
  go_wp2_with fail
  go_loop [6, 7] (fun v6 v7 => ∃ k : Nat, k ≤ K ∧ v7 = .int .i64 ((k : Int) + 1) ∧ v6 = .int .u64 (valB ((bs.drop (at_ + 1)).take k) : Int)) (fun _ v7 => K + 1 - (intOf v7).toNat)
  case atStart => exact ⟨0, Nat.zero_le _, rfl, rfl⟩
  case round =>
    obtain ⟨k, hk, rfl, rfl⟩ := hrel
    have hK8 := HK8.out
    have hyK := HYK.out
    by_cases hlt : k < K
    · have q9 : (k : Int) + 1 ≤ (y : Int) - 191 := by omega
      have hjl : at_ + (k + 1) < bs.length := by have := HLB.out; omega
      have hy : bs[at_ + (k + 1)]? = some bs[at_ + (k + 1)] := List.getElem?_eq_getElem hjl
      have hcy := HC.out _ _ hy
      have hy2 : (bs.drop (at_ + 1))[k]? = some bs[at_ + (k + 1)] := by rw [List.getElem?_drop, show at_ + 1 + k = at_ + (k + 1) by omega]; exact hy
      have HS := hid (show valB ((bs.drop (at_ + 1)).take (k + 1)) = valB ((bs.drop (at_ + 1)).take k) * 256 + (bs[at_ + (k + 1)]).toNat from by rw [valB, take_next_v _ _ _ hy2]; rfl)
      have hv := valB_lt ((bs.drop (at_ + 1)).take k)
      rw [List.length_take, List.length_drop, Nat.min_eq_left (by omega)] at hv
      have hv2 : valB ((bs.drop (at_ + 1)).take k) < 72057594037927936 := Nat.lt_of_lt_of_le hv (p256_mono (k := 7) (by omega))
      have q10 : (at_ : Int) + ((k : Int) + 1) < (n : Int) := by omega
      have hak : (at_ : Int) + ((k : Int) + 1) = ((at_ + (k + 1) : Nat) : Int) := by omega
      clear hv hy hy2 hyK hK8
      have hyl := (bs[at_ + (k + 1)]).toNat_lt
      simp only [bv] at hcy
      generalize valB ((bs.drop (at_ + 1)).take k) = V at HS hv2 ⊢
      generalize (bs[at_ + (k + 1)]).toNat = z at HS hcy hyl ⊢
      have HO := hid (show bits .or .u64 ((V : Int) * 256) (z : Int) = ((V * 256 + z : Nat) : Int) from by
        have := u64_or_nat (V * 256) z (by omega) (by omega)
        rw [shl_or V z (by omega), Int.natCast_mul] at this
        exact this)
      clear hak
      go_wp2_with fail
      refine ⟨⟨k + 1, by omega, by go_num, val_int (by rw [HO.out, HS.out])⟩, ?_⟩
      simp [intOf]; omega
    · obtain rfl : k = K := by omega
      have q9 : ¬ (k : Int) + 1 ≤ (y : Int) - 191 := by omega
      have hv := valB_lt ((bs.drop (at_ + 1)).take k)
      have HVB := hid (HLT.out _ rfl)
      generalize valB ((bs.drop (at_ + 1)).take k) = V at HLS HGOOD HVB hv ⊢
      have HVB2 := hid (HVB.out HGOOD.out.1 HGOOD.out.2)
      have HTK := hid (show ∀ W, Below w.heap.size w W → SB W B (some ⟨b, off + at_, none⟩) (1 + k) ((bs.drop at_).take (1 + k)) from fun W hW => by
        have h1 := ((HSB.out.keep hW).drop (k := at_) (c := c) (by omega) (by omega)).take (1 + k) (by omega)
        rw [if_neg (by omega), Option.map_some, Addr.add_lit] at h1
        exact h1)
      have HCB := hid (fun (W : World) (hW : Below w.heap.size w W) => ((HH.out.keep hW).1.cell 0 rfl : W.cell? ⟨g, 0, none⟩ = some (.slice (some ⟨b, off, none⟩) n c)))
      have HNU := hid (fun (W : World) => refNum_calls V HGOOD.out.1 W)
      have HHK := hid (fun (W : World) (hW : Below w.heap.size w W) => HH.out.keep hW)
      have q10 : ¬ (9223372036854775808 : Int) ≤ (V : Int) := by have := HGOOD.out; omega
      have q11 : ¬ (V : Int) < 192 := by have := HGOOD.out; omega
      have q12 : (V : Int) < 9223372036854775808 := by omega
      obtain ⟨r, hr⟩ : ∃ r, (!((strB (enc V)).toList == (strB ((bs.drop at_).take (1 + k))).toList)) = r := ⟨_, rfl⟩
      generalize (bs.drop at_).take (1 + k) = TK at hr HTK HVB2
      have HRR := hid hr
      clear hv hyK hK8 hlt hk hr HVB HLT
      go_wp2_with fail
      refine wp_region_invG 123 (.pointer none) (rn3Val b g n c k V at_ off r TK) (RnS w V) (by kernel_rfl) (by kernel_rfl) (by exact Nat.le_refl 123) ?_ ?_ ?_
      · exact ⟨(Below.refl _ _).drew, (fun e => by cases e)⟩
      · intro i o f gh a W hi hf hdep hsame hcl hval hS
        rcases i with _ | _ | _ | _ | _ | _ | _ | _ | _ | _ | _ | _ | _ | _ | _ | _ | _ | _ | _ | _ | _ | _ | _ | _ | i
        all_goals simp only [List.getElem?_cons_succ, List.getElem?_cons_zero, List.getElem?_nil, Option.some.injEq, reduceCtorEq] at hi
        all_goals subst hi
        · have E6 : a.tmps[6]? = some (.int .u64 (V : Int)) := (same_of hsame 6 (by rfl)).trans rfl
          refine g_plain rfl ?_
          exact does_value (w' := W) (v := .int .u64 (V : Int)) (by go_simp) ⟨(.pointer none), .inr rfl, hS.step 0 (.pointer none) (by decide)⟩
        · have E87 := hval 0 _ 87 rfl rfl (dep_of hdep 0 (by rfl))
          unfold rn3Val at E87
          refine g_plain rfl ?_
          exact does_value (w' := W) (v := .bool false) (by go_simp) ⟨(.pointer none), .inr rfl, hS.step 1 (.pointer none) (by decide)⟩
        · have E88 := hval 1 _ 88 rfl rfl (dep_of hdep 1 (by rfl))
          unfold rn3Val at E88
          refine g_plain rfl ?_
          exact does_value (w' := W) (v := .bool false) (by go_simp) ⟨(.pointer none), .inr rfl, hS.step 2 (.pointer none) (by decide)⟩
        · have EG := hval 2 _ 89 rfl rfl (dep_of hdep 2 (by rfl))
          have E6 : a.tmps[6]? = some (.int .u64 (V : Int)) := (same_of hsame 6 (by rfl)).trans rfl
          unfold rn3Val at EG
          refine g_want rfl rfl rfl EG ?_
          exact does_value (w' := W) (v := .int .u64 (V : Int)) (by go_simp) ⟨(.pointer none), .inr rfl, hS.step 3 (.pointer none) (by decide)⟩
        · have EG := hval 2 _ 89 rfl rfl (dep_of hdep 2 (by rfl))
          have E90 := hval 3 _ 90 rfl rfl (dep_of hdep 3 (by rfl))
          unfold rn3Val at EG E90
          refine g_want rfl rfl rfl EG ?_
          exact does_value (w' := W) (v := .bool false) (by go_simp) ⟨(.pointer none), .inr rfl, hS.step 4 (.pointer none) (by decide)⟩
        · have E89 := hval 2 _ 89 rfl rfl (dep_of hdep 2 (by rfl))
          have E91 := hval 4 _ 91 rfl rfl (dep_of hdep 4 (by rfl))
          unfold rn3Val at E89 E91
          refine g_plain rfl ?_
          exact does_value (w' := W) (v := .bool false) (by go_simp) ⟨(.pointer none), .inr rfl, hS.step 5 (.pointer none) (by decide)⟩
        · have E92 := hval 5 _ 92 rfl rfl (dep_of hdep 5 (by rfl))
          unfold rn3Val at E92
          refine g_plain rfl ?_
          exact does_value (w' := W) (v := .bool false) (by go_simp) ⟨(.pointer none), .inr rfl, hS.step 6 (.pointer none) (by decide)⟩
        · have EG := hval 6 _ 93 rfl rfl (dep_of hdep 6 (by rfl))
          have E6 : a.tmps[6]? = some (.int .u64 (V : Int)) := (same_of hsame 6 (by rfl)).trans rfl
          unfold rn3Val at EG
          refine g_want rfl rfl rfl EG ?_
          exact does_value (w' := W) (v := .int .u64 (V : Int)) (by go_simp) ⟨(.pointer none), .inr rfl, hS.step 7 (.pointer none) (by decide)⟩
        · have EG := hval 6 _ 93 rfl rfl (dep_of hdep 6 (by rfl))
          have E94 := hval 7 _ 94 rfl rfl (dep_of hdep 7 (by rfl))
          unfold rn3Val at EG E94
          have e1 : IntKind.i64.wrap (V : Int) = (V : Int) := IntWalk.i64_in _ (by omega)
          refine g_want rfl rfl rfl EG ?_
          exact does_value (w' := W) (v := .int .i64 (V : Int)) (by go_simp) ⟨(.pointer none), .inr rfl, hS.step 8 (.pointer none) (by decide)⟩
        · have EG := hval 6 _ 93 rfl rfl (dep_of hdep 6 (by rfl))
          have E95 := hval 8 _ 95 rfl rfl (dep_of hdep 8 (by rfl))
          unfold rn3Val at EG E95
          refine g_want rfl rfl rfl EG ?_
          refine does_call 61 #[.int .i64 (V : Int)] (by go_simp) ((HNU.out W).mono ?_)
          rintro _ W' ⟨v, rfl, ho, hb⟩
          exact ⟨v, rfl, v, .inr rfl, hS.s9 ho hb⟩
        · have EG := hval 6 _ 93 rfl rfl (dep_of hdep 6 (by rfl))
          have E96 := hval 9 _ 96 rfl rfl (dep_of hdep 9 (by rfl))
          unfold rn3Val at EG E96
          refine g_want rfl rfl rfl EG ?_
          obtain ⟨A9, c9, e9, -, hs9, -⟩ := (hS.own (dep_of hdep 9 (by rfl))).sb
          rw [e9] at E96
          have hst := run_str (P := Try.prog) hs9 c9 31 9 5 Try.underlying31 Try.underlying5 Try.underlying9
          exact does_value (w' := W) (v := .string (strB (enc V))) (by go_simp) ⟨.pointer none, .inr rfl, hS.step 10 (.pointer none) (by decide)⟩
        · have EG := hval 6 _ 93 rfl rfl (dep_of hdep 6 (by rfl))
          have E0 : a.tmps[0]? = some (.pointer (some ⟨g, 0, none⟩)) := (same_of hsame 0 (by rfl)).trans rfl
          unfold rn3Val at EG
          refine g_want rfl rfl rfl EG ?_
          exact does_value (w' := W) (v := .pointer (some ⟨g, 0, none⟩)) (by go_simp) ⟨(.pointer none), .inr rfl, hS.step 11 (.pointer none) (by decide)⟩
        · have EG := hval 6 _ 93 rfl rfl (dep_of hdep 6 (by rfl))
          have E98 := hval 11 _ 98 rfl rfl (dep_of hdep 11 (by rfl))
          unfold rn3Val at EG E98
          refine g_want rfl rfl rfl EG ?_
          exact does_value (w' := W) (v := .pointer (some ⟨g, 0, none⟩)) (by go_simp) ⟨(.pointer none), .inr rfl, hS.step 12 (.pointer none) (by decide)⟩
        · have EG := hval 6 _ 93 rfl rfl (dep_of hdep 6 (by rfl))
          have E99 := hval 12 _ 99 rfl rfl (dep_of hdep 12 (by rfl))
          unfold rn3Val at EG E99
          refine g_want rfl rfl rfl EG ?_
          exact does_value (w' := W) (v := .pointer (some ⟨g, 0, none⟩)) (by go_simp) ⟨(.pointer none), .inr rfl, hS.step 13 (.pointer none) (by decide)⟩
        · have EG := hval 6 _ 93 rfl rfl (dep_of hdep 6 (by rfl))
          have E100 := hval 13 _ 100 rfl rfl (dep_of hdep 13 (by rfl))
          unfold rn3Val at EG E100
          have c0 := HCB.out W hS.bel
          refine g_want rfl rfl rfl EG ?_
          exact does_value (w' := W) (v := .slice (some ⟨b, off, none⟩) n c) (by go_simp) ⟨(.pointer none), .inr rfl, hS.step 14 (.pointer none) (by decide)⟩
        · have EG := hval 6 _ 93 rfl rfl (dep_of hdep 6 (by rfl))
          have E3 : a.tmps[3]? = some (.int .i64 (at_ : Int)) := (same_of hsame 3 (by rfl)).trans rfl
          unfold rn3Val at EG
          refine g_want rfl rfl rfl EG ?_
          exact does_value (w' := W) (v := .int .i64 (at_ : Int)) (by go_simp) ⟨(.pointer none), .inr rfl, hS.step 15 (.pointer none) (by decide)⟩
        · have EG := hval 6 _ 93 rfl rfl (dep_of hdep 6 (by rfl))
          have E3 : a.tmps[3]? = some (.int .i64 (at_ : Int)) := (same_of hsame 3 (by rfl)).trans rfl
          unfold rn3Val at EG
          refine g_want rfl rfl rfl EG ?_
          exact does_value (w' := W) (v := .int .i64 (at_ : Int)) (by go_simp) ⟨(.pointer none), .inr rfl, hS.step 16 (.pointer none) (by decide)⟩
        · have EG := hval 6 _ 93 rfl rfl (dep_of hdep 6 (by rfl))
          have E103 := hval 16 _ 103 rfl rfl (dep_of hdep 16 (by rfl))
          unfold rn3Val at EG E103
          obtain ⟨hk1, hk2, hk3⟩ := HK8.out
          have e1 : IntKind.i64.wrap ((at_ : Int) + 1) = (at_ : Int) + 1 := IntWalk.i64_in _ (by omega)
          refine g_want rfl rfl rfl EG ?_
          exact does_value (w' := W) (v := .int .i64 ((at_ : Int) + 1)) (by go_simp) ⟨(.pointer none), .inr rfl, hS.step 17 (.pointer none) (by decide)⟩
        · have EG := hval 6 _ 93 rfl rfl (dep_of hdep 6 (by rfl))
          have E5 : a.tmps[5]? = some (.int .i64 ((y : Int) - 191)) := (same_of hsame 5 (by rfl)).trans rfl
          unfold rn3Val at EG
          have hyk : (y : Int) - 191 = (k : Int) := by have := HYK.out; omega
          refine g_want rfl rfl rfl EG ?_
          exact does_value (w' := W) (v := .int .i64 (k : Int)) (by go_simp) ⟨(.pointer none), .inr rfl, hS.step 18 (.pointer none) (by decide)⟩
        · have EG := hval 6 _ 93 rfl rfl (dep_of hdep 6 (by rfl))
          have E104 := hval 17 _ 104 rfl rfl (dep_of hdep 17 (by rfl))
          have E105 := hval 18 _ 105 rfl rfl (dep_of hdep 18 (by rfl))
          unfold rn3Val at EG E104 E105
          obtain ⟨hk1, hk2, hk3⟩ := HK8.out
          have e1 : IntKind.i64.wrap ((at_ : Int) + 1 + (k : Int)) = (at_ : Int) + 1 + (k : Int) := IntWalk.i64_in _ (by omega)
          refine g_want rfl rfl rfl EG ?_
          exact does_value (w' := W) (v := .int .i64 ((at_ : Int) + 1 + (k : Int))) (by go_simp) ⟨(.pointer none), .inr rfl, hS.step 19 (.pointer none) (by decide)⟩
        · have EG := hval 6 _ 93 rfl rfl (dep_of hdep 6 (by rfl))
          have E101 := hval 14 _ 101 rfl rfl (dep_of hdep 14 (by rfl))
          have E102 := hval 15 _ 102 rfl rfl (dep_of hdep 15 (by rfl))
          have E106 := hval 19 _ 106 rfl rfl (dep_of hdep 19 (by rfl))
          unfold rn3Val at EG E101 E102 E106
          obtain ⟨hk1, hk2, hk3⟩ := HK8.out
          have e1 : (0 : Int) ≤ (at_ : Int) + 1 + (k : Int) := by omega
          have e2 : (at_ : Int) + 1 + (k : Int) ≤ (c : Int) := by omega
          have e3 : ((at_ : Int) + 1 + (k : Int)).toNat = at_ + 1 + k := by omega
          have e4 : at_ ≤ at_ + 1 + k := by omega
          have e5 : ¬ c = at_ := by omega
          have e6 : at_ + 1 + k - at_ = 1 + k := by omega
          refine g_want rfl rfl rfl EG ?_
          exact does_value (w' := W) (v := .slice (some ⟨b, off + at_, none⟩) (1 + k) (c - at_)) (by go_simp) ⟨(.pointer none), .inr rfl, hS.step 20 (.pointer none) (by decide)⟩
        · have EG := hval 6 _ 93 rfl rfl (dep_of hdep 6 (by rfl))
          have E107 := hval 20 _ 107 rfl rfl (dep_of hdep 20 (by rfl))
          unfold rn3Val at EG E107
          refine g_want rfl rfl rfl EG ?_
          have hst := run_str (P := Try.prog) (HTK.out W hS.bel) (c - at_) 31 9 5 Try.underlying31 Try.underlying5 Try.underlying9
          exact does_value (w' := W) (v := .string (strB TK)) (by go_simp) ⟨.pointer none, .inr rfl, hS.step 21 (.pointer none) (by decide)⟩
        · have EG := hval 6 _ 93 rfl rfl (dep_of hdep 6 (by rfl))
          have E97 := hval 10 _ 97 rfl rfl (dep_of hdep 10 (by rfl))
          have E108 := hval 21 _ 108 rfl rfl (dep_of hdep 21 (by rfl))
          unfold rn3Val at EG E97 E108
          have hr := HRR.out
          refine g_want rfl rfl rfl EG ?_
          exact does_value (w' := W) (v := .bool r) (by go_simp) ⟨(.pointer none), .inr rfl, hS.step 22 (.pointer none) (by decide)⟩
        · have E93 := hval 6 _ 93 rfl rfl (dep_of hdep 6 (by rfl))
          have E109 := hval 22 _ 109 rfl rfl (dep_of hdep 22 (by rfl))
          unfold rn3Val at E93 E109
          refine g_plain rfl ?_
          exact does_value (w' := W) (v := .bool r) (by go_simp) ⟨(.pointer none), .inr rfl, hS.step 23 (.pointer none) (by decide)⟩
      · intro gh W hS
        have HW := hid hS.bel
        clear hS
        simp only [putAll, rn3Val, Nat.reduceAdd, Nat.zero_add, Act.put, List.setIfInBounds_toArray, List.set_cons_zero, List.set_cons_succ]
        have HRW := hid (HHK.out W HW.out)
        obtain ⟨hk8, hk1, hkn⟩ := HK8.out
        by_cases hE : encSize V = 1 + k
        · obtain rfl : r = false := by rw [← HRR.out, strB_ne, HVB2.out.2 hE]; simp
          obtain rfl : L = (V, at_ + 1 + k, .ok (at_ + 1 + k)) := by rw [← HLS.out]; unfold longS; rw [if_neg (by have := HGOOD.out; omega)]
          obtain ⟨hb, hs, hB2, ha2, hn2, hg2, hok2⟩ := HRW.out
          have e1 := hb.cell 1 rfl
          have f1 := hb.frozen 1
          have kc : Chg [g] W (W.setCell ⟨g, 1, none⟩ (.int .i64 ((at_ : Int) + 1 + (k : Int)))) := chg_set (by simp) 1 _
          have HKK := hid (show RrB (W.setCell ⟨g, 1, none⟩ (.int .i64 ((at_ : Int) + 1 + (k : Int)))) g B n c (some ⟨b, off, none⟩) bs (at_ + 1 + k) (.ok (at_ + 1 + k)) ∧ Chg [g] w (W.setCell ⟨g, 1, none⟩ (.int .i64 ((at_ : Int) + 1 + (k : Int)))) from
            ⟨⟨hb.set_ 1 _, hs.chg kc (fun y _ e hlt hm => by simp at hm; omega), hB2, by omega, hn2, show at_ + 1 + k ≤ n by omega, fun a' e => by cases e; rfl⟩, (Chg.of_below HW.out).trans kc (fun b hb => .inl hb)⟩)
          have hyk : (y : Int) - 191 = (k : Int) := by have := HYK.out; omega
          clear hb hs hB2 ha2 hn2 hg2 hok2 kc hE HLS HRR HVB2 HGOOD
          go_wp2_with fail
          go_ret
          exact ⟨rfl, HKK.out.1, HKK.out.2⟩
        · obtain rfl : r = true := by
            rw [← HRR.out, strB_ne]
            have hne : ¬ enc V = TK := fun e => hE (HVB2.out.1 e)
            simpa using hne
          obtain rfl : L = (0, at_, .bad 5 at_) := by rw [← HLS.out]; unfold longS; rw [if_pos (.inr hE)]
          have HFW := hid (refFail_calls g B n c (some ⟨b, off, none⟩) bs at_ (.ok at_) 5 at_ W HRW.out (by omega) HRW.out.2.2.2.1)
          clear hE HLS HRR HVB2 HGOOD HRW
          go_wp2_with fail
          refine HFW.out.mono ?_
          rintro _ w1 ⟨rfl, h1, k1⟩
          have HK := hid (And.intro h1 ((Chg.of_below HW.out).trans k1 (fun b hb => .inl hb)))
          clear h1 k1
          go_wp2_with fail
          go_ret
          exact ⟨rfl, HK.out.1, HK.out.2⟩
end
end Go.Proofs.Ytcpkjpeimnaimaa
/- Contracts: a reader of the plain reference: Num, whatever comes. -/
namespace Go.Proofs.Ytcpkjpeimnaimaa
open Go.RowKit

/-- Block g is a reader of the plain reference, wherever it is. -/
def RfB (w : World) (g B c : Nat) (A : Option Addr) (bs : List UInt8) (s : RS) : Prop := (∃ a, RrB w g B bs.length c A bs a s) ∧ bs.length ≤ c
def RfP (w : World) (g B c : Nat) (A : Option Addr) (bs : List UInt8) (s' : RS) (w' : World) : Prop := RfB w' g B c A bs s' ∧ Chg [g] w w'
section
variable {w w' w'' : World} {g B c : Nat} {A : Option Addr} {bs : List UInt8} {s s' : RS} {L : List Nat}
theorem RfB.chg (h : RfB w g B c A bs s) (hc : Chg L w w') (hg : g ∉ L) (hd : ∀ b, b < B → b ∉ L) : RfB w' g B c A bs s := by
  obtain ⟨⟨a, h⟩, k⟩ := h; exact ⟨⟨a, h.chg hc hg hd⟩, k⟩
theorem RfB.keep (h : RfB w g B c A bs s) (hb : Below w.heap.size w w') : RfB w' g B c A bs s := h.chg (L := []) (Chg.of_below hb) (by simp) (by simp)
theorem RfB.drew (h : RfB w g B c A bs s) : RfB w.drew g B c A bs s := h
theorem RfB.lt (h : RfB w g B c A bs s) : g < w.heap.size := by obtain ⟨⟨a, h⟩, -⟩ := h; exact h.1.lt
theorem RfB.hB (h : RfB w g B c A bs s) : B ≤ g := by obtain ⟨⟨a, h⟩, -⟩ := h; exact h.2.2.1
theorem RfB.good (h : RfB w g B c A bs s) : s.good bs.length := by obtain ⟨⟨a, h⟩, -⟩ := h; exact h.2.2.2.2.2.1
theorem RfP.trans (h : Chg [g] w w') (k : RfP w' g B c A bs s' w'') : RfP w g B c A bs s' w'' := ⟨k.1, h.trans k.2 (fun _ hb => .inl hb)⟩
theorem RfP.fresh (h : Below w.heap.size w w') (k : RfP w' g B c A bs s' w'') : RfP w g B c A bs s' w'' := RfP.trans (Chg.of_below h) k
theorem RfP.refl (h : RfB w g B c A bs s) : RfP w g B c A bs s w := ⟨h, Chg.refl _ _⟩
end
theorem numS_ok (bs : List UInt8) (a : Nat) : numS bs maxI 0 (.ok a) = numS0 bs a := by
  show limS a maxI 0 (numS0 bs a) = _
  generalize hq : numS0 bs a = q
  obtain ⟨n, s⟩ := q
  cases s with
  | ok a' =>
    have := numS0_lt bs a n a' hq
    exact if_neg (by unfold maxI; omega)
  | bad e p =>
    have hn : n = 0 := by
      unfold numS0 at hq
      split at hq
      · simp at hq
      · simp only [Prod.mk.injEq] at hq; exact hq.1.symm
    subst hn
    rfl
theorem numS0_cons {bs : List UInt8} {a : Nat} {x : UInt8} (hx : bs[a]? = some x) : bs.drop a = x :: bs.drop (a + 1) := by
  have hl : a < bs.length := (List.getElem?_eq_some_iff.1 hx).1
  rw [List.drop_eq_getElem_cons hl, (List.getElem?_eq_some_iff.1 hx).2]
theorem rn_post {w : World} {g B c : Nat} {A : Option Addr} {bs : List UInt8} {v : Value} {a' : Nat} {s' : RS} {q : Nat × RS} (hc : bs.length ≤ c) (hv : v = .int .i64 (q.1 : Int)) (hs : q.2 = s') (e : Ending) (w' : World) (h : RnPost g B bs.length c A bs w v a' s' e w') :
    e = .returned (.int .i64 (q.1 : Int)) ∧ RfP w g B c A bs q.2 w' := by
  obtain ⟨h1, h2, h3⟩ := h
  subst hs
  exact ⟨by rw [h1, hv], ⟨⟨_, h2⟩, hc⟩, h3⟩
section
variable (g B c : Nat) (A : Option Addr) (bs : List UInt8) (s : RS) (w : World)
theorem refRNum_calls (h : RfB w g B c A bs s) :
    Calls Try.prog 37 #[.pointer (some ⟨g, 0, none⟩)] w fun e w' => e = .returned (.int .i64 ((numS bs maxI 0 s).1 : Int)) ∧ RfP w g B c A bs (numS bs maxI 0 s).2 w' := by
  obtain ⟨⟨a, h⟩, hc⟩ := h
  cases s with
  | bad e p => exact (refRNum_bad g B bs.length c A bs a w e p h).mono (rn_post hc rfl rfl)
  | ok a' =>
    obtain rfl := h.2.2.2.2.2.2 a' rfl
    rw [numS_ok]
    by_cases hna : bs.length ≤ a
    · have e : numS0 bs a = (0, .bad 6 a) := by unfold numS0; rw [List.drop_of_length_le hna]; rfl
      rw [e]
      exact (refRNum_end g B bs.length c A bs a w hna h).mono (rn_post (q := (0, .bad 6 a)) hc rfl rfl)
    · obtain ⟨x, hx⟩ : ∃ x, bs[a]? = some x := ⟨_, List.getElem?_eq_getElem (by omega)⟩
      have hd := numS0_cons hx
      by_cases h1 : x.toNat < 192
      · have e : numS0 bs a = (x.toNat, .ok (a + 1)) := by
          have hdn : decN (bs.drop a) = (x.toNat, 1, 0) := by
            rw [hd]; simp only [decN]
            rw [if_pos (by omega)]
          unfold numS0; rw [hdn]; rfl
        rw [e]
        exact (refRNum_small g B bs.length c A bs a w x hx h1 h).mono (rn_post (q := (x.toNat, .ok (a + 1))) hc rfl rfl)
      by_cases h2 : 199 < x.toNat
      · have e : numS0 bs a = (0, .bad 5 a) := by
          have hdn : decN (bs.drop a) = (0, 0, 5) := by
            rw [hd]; simp only [decN]
            rw [if_neg (by omega), if_pos h2]
          unfold numS0; rw [hdn]; rfl
        rw [e]
        exact (refRNum_form g B bs.length c A bs a w x hx h2 h).mono (rn_post (q := (0, .bad 5 a)) hc rfl rfl)
      by_cases h3 : bs.length - a - 1 < x.toNat - 191
      · have e : numS0 bs a = (0, .bad 6 a) := by
          have hdn : decN (bs.drop a) = (0, 0, 6) := by
            rw [hd]; simp only [decN]
            rw [if_neg (by omega), if_neg (by omega), if_pos (by rw [List.length_drop]; omega)]
          unfold numS0; rw [hdn]; rfl
        rw [e]
        exact (refRNum_short g B bs.length c A bs a w x hx (by omega) (by omega) (by omega) h).mono (rn_post (q := (0, .bad 6 a)) hc rfl rfl)
      have e := longS_numS0 hx (by omega) (by omega) (by omega)
      rw [e]
      by_cases h4 : 9223372036854775808 ≤ valB ((bs.drop (a + 1)).take (x.toNat - 191)) ∨ valB ((bs.drop (a + 1)).take (x.toNat - 191)) < 192
      · exact (refRNum_wrong g B bs.length c A bs a w x hx (by omega) (by omega) (by omega) h h4).mono (rn_post (q := (_, _)) hc rfl rfl)
      · exact (refRNum_right g B bs.length c A bs a w x hx (by omega) (by omega) (by omega) h hc (by omega)).mono (rn_post (q := (_, _)) hc rfl rfl)
end
end Go.Proofs.Ytcpkjpeimnaimaa
/- Contracts: a reader of the plain reference: NewReader, Bytes, Text. -/
namespace Go.Proofs.Ytcpkjpeimnaimaa
open Go.RowKit

theorem does_append_bytes {w : World} {o : Oper} {a : Act} {T : Value → World → Prop} (s x : Operand) (ho : o.op = .call { callee := .builtin .append, args := #[s, x], argTypes := #[31, 31] }) {base : Nat} (v : Value) (hv : a.eval s = v) {n : Nat} {bs : List UInt8} (hown : Own w base 5 v n bs) {B : Nat} (m c : Nat) (A : Option Addr) (hx : a.eval x = .slice A m c) {cs : List UInt8} (hs : SB w B A m cs) (hlen : n + m ≤ 1099511627776) (hbase : base ≤ w.heap.size)
    (h : ∀ v' w', Own w' base 5 v' (n + m) (bs ++ cs) → Below base w w' → T v' w') : OpDoes Try.prog o a w T := fun K Q hK => by
  obtain ⟨v', w', hr, h2, h3, -⟩ := run_append_bytes (P := Try.prog) w 31 o.type 5 base Try.underlying31 info5' v n bs hown B A m c cs hs hlen hbase
  unfold Oper.wp execOp
  simp only [ho, resolve, invoke, builtin, Sem.run_bind, Sem.run_pure, Result.andThen_ok, List.map_toArray, List.map_cons, List.map_nil, hv, hx, hr]
  exact hK _ _ (h v' w' h2 (below_of_grown h3 hbase (fun g e => (hown.block g e).1)))
/-- bytes of the call's own out of others, in a drawn region -/
structure BtS (w0 : World) (m : Nat) (xs : List UInt8) (f : Nat → Bool) (gh : Nat → Value) (W : World) : Prop where
  bel : Below w0.heap.size w0 W
  o0 : f 0 = true → f 16 = false → Own W w0.heap.size 5 (gh 0) 0 []
  o16 : f 16 = true → f 17 = false → Own W w0.heap.size 5 (gh 16) m xs
  o17 : f 17 = true → Own W w0.heap.size 5 (gh 17) m xs
section
variable {w0 W W' : World} {m : Nat} {xs : List UInt8} {f : Nat → Bool} {gh : Nat → Value}
theorem BtS.step (h : BtS w0 m xs f gh W) (i : Nat) (k : Value) (h0 : 0 ≠ i) (h16 : 16 ≠ i) (h17 : 17 ≠ i) : BtS w0 m xs (upd f i) (updN gh i k) W :=
  ⟨h.bel, by rw [ap_ne h0, ap_ne h16, apN_ne h0]; exact h.o0, by rw [ap_ne h16, ap_ne h17, apN_ne h16]; exact h.o16, by rw [ap_ne h17, apN_ne h17]; exact h.o17⟩
theorem BtS.s0 (h : BtS w0 m xs f gh W) (h16 : f 16 = false) (h17 : f 17 = false) : BtS w0 m xs (upd f 0) (updN gh 0 (.slice (some ⟨W.heap.size, 0, none⟩) 0 0)) (W.alloc (.cells #[] 5)) :=
  ⟨h.bel.trans ((below_new W _).mono h.bel.size), fun _ _ => by rw [apN_eq]; exact Own.lit W 5 w0.heap.size [] #[] 0 rfl rfl h.bel.size (by omega), (fun e => by rw [ap_ne (by decide), h16] at e; cases e), (fun e => by rw [ap_ne (by decide), h17] at e; cases e)⟩
theorem BtS.s16 {v : Value} (h : BtS w0 m xs f gh W) (_h0 : f 0 = true) (h17 : f 17 = false) (ho : Own W' w0.heap.size 5 v m xs) (hb : Below w0.heap.size W W') : BtS w0 m xs (upd f 16) (updN gh 16 v) W' :=
  ⟨h.bel.trans hb, (fun _ e => by rw [ap_eq] at e; cases e), fun _ _ => by rw [apN_eq]; exact ho, (fun e => by rw [ap_ne (by decide), h17] at e; cases e)⟩
theorem BtS.s17 (h : BtS w0 m xs f gh W) (h16 : f 16 = true) (h17 : f 17 = false) : BtS w0 m xs (upd f 17) (updN gh 17 (gh 16)) W :=
  ⟨h.bel, (fun _ e => by rw [ap_ne (by decide), h16] at e; cases e), (fun _ e => by rw [ap_eq] at e; cases e), fun _ => by rw [apN_eq]; exact h.o16 h16 h17⟩
end
def rbVal (g : Nat) (m : Nat) (A : Option Addr) (n : Nat) (c : Nat) (A2 : Option Addr) (a2 : Nat) : Nat → Value → Value
  | 0, k => k
  | 1, _ => .pointer (some ⟨g, 0, none⟩)
  | 2, _ => .pointer (some ⟨g, 0, none⟩)
  | 3, _ => .pointer (some ⟨g, 0, none⟩)
  | 4, _ => .slice A n c
  | 5, _ => .pointer (some ⟨g, 0, none⟩)
  | 6, _ => .pointer (some ⟨g, 0, none⟩)
  | 7, _ => .pointer (some ⟨g, 1, none⟩)
  | 8, _ => .int .i64 (a2 : Int)
  | 9, _ => .pointer (some ⟨g, 0, none⟩)
  | 10, _ => .pointer (some ⟨g, 0, none⟩)
  | 11, _ => .pointer (some ⟨g, 1, none⟩)
  | 12, _ => .int .i64 (a2 : Int)
  | 13, _ => .int .i64 (m : Int)
  | 14, _ => .int .i64 ((a2 : Int) + (m : Int))
  | 15, _ => .slice A2 m (c - a2)
  | 16, k => k
  | 17, k => k
  | _, _ => undef
section
variable (g B c : Nat) (A : Option Addr) (bs : List UInt8) (s : RS) (w : World)
def BtP (w : World) (g B c : Nat) (A : Option Addr) (bs : List UInt8) (q : List UInt8 × RS) (e : Ending) (w' : World) : Prop := ∃ v, e = .returned v ∧ Own w' w.heap.size 5 v q.1.length q.1 ∧ RfP w g B c A bs q.2 w'
set_option maxRecDepth 20000 in
set_option maxHeartbeats 1000000 in
theorem refRBytes_calls (most : Int) (h : RfB w g B c A bs s) :
    Calls Try.prog 41 #[.pointer (some ⟨g, 0, none⟩), .int .i64 most] w (BtP w g B c A bs (sizedS bs most s)) := by
  have HN := hid (refRNum_calls g B c A bs s w h)
  obtain ⟨⟨at_, h⟩, hc⟩ := h
  have d1 : w.cell? ⟨g, 1, none⟩ = some (.int .i64 (at_ : Int)) := h.1.cell 1 rfl
  cases s with
  | bad e p =>
    have he : ¬ (e : Int) = 0 := by have := h.2.2.2.2.2.1.1; omega
    rw [show numS bs maxI 0 (.bad e p) = (0, .bad e p) from rfl] at HN
    have HQ := hid (show ∀ w', RfP w g B c A bs (.bad e p) w' → BtP w g B c A bs (sizedS bs most (.bad e p)) (.returned (.slice none 0 0)) w' from fun w' hp => ⟨_, rfl, Own.nil _ _ _, hp⟩)
    generalize sizedS bs most (.bad e p) = q at HQ ⊢
    generalize BtP w g B c A bs q = Q at HQ ⊢
    clear h hc
    go_enter Try.func41, Try.ntmps41
    go_wp2_with fail
    refine HN.out.mono ?_
    rintro _ w1 ⟨rfl, hp⟩
    obtain ⟨⟨a1, h1⟩, -⟩ := hp.1
    have d2 : w1.cell? ⟨g, 2, none⟩ = some (.int .i64 (e : Int)) := h1.1.cell 2 rfl
    have HP := hid (HQ.out _ hp)
    clear hp h1 d1 HQ HN
    go_wp2_with fail
    exact HP.out
  | ok a' =>
    obtain rfl := h.2.2.2.2.2.2 a' rfl
    have hat : at_ ≤ bs.length := h.2.2.2.1
    have hS : sizedS bs most (.ok at_) = takeS bs (limS at_ most 4 (numS0 bs at_)).1 at_ (limS at_ most 4 (numS0 bs at_)).2 := rfl
    rw [numS_ok] at HN
    clear h
    generalize numS0 bs at_ = q at HN hS
    obtain ⟨m, s1⟩ := q
    cases s1 with
    | bad e p =>
      have hS2 : sizedS bs most (.ok at_) = ([], .bad e p) := hS
      rw [hS2]
      have HN0 := hid (show ∀ w', RfP w g B c A bs (.bad e p) w' → BtP w g B c A bs ([], .bad e p) (.returned (.slice none 0 0)) w' from fun w' hp => ⟨_, rfl, Own.nil _ _ _, hp⟩)
      generalize BtP w g B c A bs ([], .bad e p) = Q at HN0 ⊢
      clear hS hS2 hat hc
      go_enter Try.func41, Try.ntmps41
      go_wp2_with fail
      refine HN.out.mono ?_
      rintro _ w1 ⟨rfl, hp⟩
      have he : ¬ (e : Int) = 0 := by have := hp.1.good.1; omega
      obtain ⟨⟨a1, h1⟩, -⟩ := hp.1
      have d2 : w1.cell? ⟨g, 2, none⟩ = some (.int .i64 (e : Int)) := h1.1.cell 2 rfl
      have HP := hid (HN0.out _ hp)
      generalize ((m, RS.bad e p).1 : Int) = z
      clear hp h1 d1 HN0 HN
      go_wp2_with fail
      exact HP.out
    | ok a1 =>
      dsimp only at HN
      by_cases hm : most < (m : Int)
      · have hS2 : sizedS bs most (.ok at_) = ([], .bad 4 at_) := by rw [hS, show limS at_ most 4 (m, .ok a1) = (0, .bad 4 at_) from if_pos hm]; rfl
        rw [hS2]
        have HN0 := hid (show ∀ w', RfP w g B c A bs (.bad 4 at_) w' → BtP w g B c A bs ([], .bad 4 at_) (.returned (.slice none 0 0)) w' from fun w' hp => ⟨_, rfl, Own.nil _ _ _, hp⟩)
        generalize BtP w g B c A bs ([], .bad 4 at_) = Q at HN0 ⊢
        have HAT := hid hat
        clear hS hS2 hat hc
        go_enter Try.func41, Try.ntmps41
        go_wp2_with fail
        refine HN.out.mono ?_
        rintro _ w1 ⟨rfl, hp⟩
        obtain ⟨⟨a2, h1⟩, hcc⟩ := hp.1
        have d2 : w1.cell? ⟨g, 2, none⟩ = some (.int .i64 0) := h1.1.cell 2 rfl
        have HF := hid (refFail_calls g B bs.length c A bs a2 (.ok a1) 4 at_ w1 h1 (by omega) HAT.out)
        have HP := hid (fun w' (h2 : RfB w' g B c A bs (.bad 4 at_)) (h3 : Chg [g] w1 w') => HN0.out w' ⟨h2, hp.2.trans h3 (fun _ hb => .inl hb)⟩)
        have HCC := hid hcc
        clear hp h1 d1 HN0 HN hcc
        go_wp2_with fail
        refine HF.out.mono ?_
        rintro _ w2 ⟨rfl, h2, h3⟩
        have HQ := hid (HP.out _ ⟨⟨_, h2⟩, HCC.out⟩ h3)
        clear h2 h3
        go_wp2_with fail
        exact HQ.out
      · have hm' : ¬ most < (m : Int) := hm
        have hS3 : sizedS bs most (.ok at_) = takeS bs m at_ (.ok a1) := by rw [hS, show limS at_ most 4 (m, .ok a1) = (m, .ok a1) from if_neg hm]
        by_cases hr : bs.length - a1 < m
        · have hS2 : sizedS bs most (.ok at_) = ([], .bad 6 at_) := by rw [hS3]; exact if_pos hr
          rw [hS2]
          have HN0 := hid (show ∀ w', RfP w g B c A bs (.bad 6 at_) w' → BtP w g B c A bs ([], .bad 6 at_) (.returned (.slice none 0 0)) w' from fun w' hp => ⟨_, rfl, Own.nil _ _ _, hp⟩)
          generalize BtP w g B c A bs ([], .bad 6 at_) = Q at HN0 ⊢
          have HAT := hid hat
          clear hS hS2 hS3 hat hc hm
          go_enter Try.func41, Try.ntmps41
          go_wp2_with fail
          refine HN.out.mono ?_
          rintro _ w1 ⟨rfl, hp⟩
          obtain ⟨⟨a2, h1⟩, hcc⟩ := hp.1
          obtain rfl := h1.2.2.2.2.2.2 a1 rfl
          have d0 : w1.cell? ⟨g, 0, none⟩ = some (.slice A bs.length c) := h1.1.cell 0 rfl
          have d3 : w1.cell? ⟨g, 1, none⟩ = some (.int .i64 (a2 : Int)) := h1.1.cell 1 rfl
          have d2 : w1.cell? ⟨g, 2, none⟩ = some (.int .i64 0) := h1.1.cell 2 rfl
          have HF := hid (refFail_calls g B bs.length c A bs a2 (.ok a2) 6 at_ w1.drew h1.drew (by omega) HAT.out)
          have HP := hid (fun w' (h2 : RfB w' g B c A bs (.bad 6 at_)) (h3 : Chg [g] w1.drew w') => HN0.out w' ⟨h2, hp.2.drew.trans h3 (fun _ hb => .inl hb)⟩)
          have HCC := hid hcc
          have hr' : (bs.length : Int) - (a2 : Int) < (m : Int) := by have := h1.2.2.2.1; omega
          have hnl : (bs.length : Int) ≤ 549755813888 := by have := h1.2.2.2.2.1; omega
          have hal : (a2 : Int) ≤ (bs.length : Int) := by have := h1.2.2.2.1; omega
          clear hp h1 d1 HN0 HN hcc hr
          generalize bs.length = n at d0 hr' hnl hal
          go_wp2_with fail
          go_region
          go_wp2_with fail
          clear d0 d2 d3
          refine HF.out.mono ?_
          rintro _ w2 ⟨rfl, h2, h3⟩
          have HQ := hid (HP.out _ ⟨⟨_, (h2 : RrB w2 g B bs.length c A bs a2 (.bad 6 at_))⟩, HCC.out⟩ h3)
          clear h2 h3
          go_wp2_with fail
          exact HQ.out
        · have hr2 : ¬ bs.length - a1 < m := hr
          have hS2 : sizedS bs most (.ok at_) = ((bs.drop a1).take m, .ok (a1 + m)) := by rw [hS3]; exact if_neg hr
          rw [hS2]
          have HN0 := hid (show ∀ v w', Own w' w.heap.size 5 v m ((bs.drop a1).take m) → ((bs.drop a1).take m).length = m → RfP w g B c A bs (.ok (a1 + m)) w' → BtP w g B c A bs ((bs.drop a1).take m, .ok (a1 + m)) (.returned v) w' from fun v w' ho hl hp => ⟨v, rfl, by show Own w' w.heap.size 5 v ((bs.drop a1).take m).length _; rw [hl]; exact ho, hp⟩)
          generalize BtP w g B c A bs ((bs.drop a1).take m, .ok (a1 + m)) = Q at HN0 ⊢
          have HAT := hid hat
          clear hS hS2 hS3 hat hc hm hr2
          go_enter Try.func41, Try.ntmps41
          go_wp2_with fail
          refine HN.out.mono ?_
          rintro _ w1 ⟨rfl, hp⟩
          obtain ⟨⟨a2, h1⟩, hcc⟩ := hp.1
          obtain rfl := h1.2.2.2.2.2.2 a1 rfl
          have HH := hid h1
          have d0 : w1.cell? ⟨g, 0, none⟩ = some (.slice A bs.length c) := h1.1.cell 0 rfl
          have d3 : w1.cell? ⟨g, 1, none⟩ = some (.int .i64 (a2 : Int)) := h1.1.cell 1 rfl
          have d2 : w1.cell? ⟨g, 2, none⟩ = some (.int .i64 0) := h1.1.cell 2 rfl
          have hal : a2 ≤ bs.length := h1.2.2.2.1
          have hnl : bs.length ≤ 549755813888 := h1.2.2.2.2.1
          have hlen : ((bs.drop a2).take m).length = m := by rw [List.length_take, List.length_drop]; omega
          have hr' : ¬ (bs.length : Int) - (a2 : Int) < (m : Int) := by omega
          have HSB := hid (fun (W : World) (hW : Below w1.heap.size w1 W) => ((h1.2.1.keep hW).drop (k := a2) (c := c) hal hcc).take m (by omega))
          have HC := hid (fun (W : World) (hW : Below w1.heap.size w1 W) => (⟨(h1.keep hW).1.cell 0 rfl, (h1.keep hW).1.cell 1 rfl⟩ : W.cell? ⟨g, 0, none⟩ = some (.slice A bs.length c) ∧ W.cell? ⟨g, 1, none⟩ = some (.int .i64 (a2 : Int))))
          have HP := hid (fun v W (ho : Own W w1.heap.size 5 v m ((bs.drop a2).take m)) (hb : Below w1.heap.size w1 W) => (by
            have hkk := HH.out.keep hb
            have kc : Chg [g] W (W.setCell ⟨g, 1, none⟩ (.int .i64 ((a2 + m : Nat) : Int))) := chg_set (by simp) 1 _
            have hgl : g < w1.heap.size := HH.out.1.lt
            refine HN0.out v _ ((ho.kept (grown_setCell W g 1 _) ?_).lower hp.2.size) hlen ⟨⟨⟨a2 + m, hkk.1.set_ 1 _, hkk.2.1.chg kc (fun y _ e hlt hm => ?_), hkk.2.2.1, by omega, hnl, show a2 + m ≤ bs.length by omega, fun a' e => by cases e; rfl⟩, hcc⟩, (hp.2.trans (Chg.of_below (L := []) hb) (fun _ hb => by cases hb)).trans kc (fun b hb => .inl hb)⟩
            · rcases hv : v.ownBlock with _ | x
              · exact .inl rfl
              · right
                have := (ho.block x hv).1
                intro e; injection e with e; omega
            · have := hkk.2.2.1
              simp at hm; omega : Q (.returned v) (W.setCell ⟨g, 1, none⟩ (.int .i64 ((a2 + m : Nat) : Int)))))
          have HFZ := hid (fun (W : World) (hW : Below w1.heap.size w1 W) => (⟨(HH.out.keep hW).1.cell 1 rfl, (HH.out.keep hW).1.frozen 1⟩ : W.cell? ⟨g, 1, none⟩ = some (.int .i64 (a2 : Int)) ∧ W.frozen? ⟨g, 1, none⟩ = false))
          have HB := hid (show a2 + m ≤ bs.length ∧ bs.length ≤ 549755813888 ∧ bs.length ≤ c from ⟨by omega, hnl, hcc⟩)
          have hmm : ¬ (m : Int) < 0 := by omega
          have hnl' : (bs.length : Int) ≤ 549755813888 := by omega
          have hal' : (a2 : Int) ≤ (bs.length : Int) := by omega
          clear hp h1 d1 HN0 HN hcc hr hal hnl hlen HH HAT
          generalize (bs.drop a2).take m = xs at HSB HP
          generalize bs.length = n at HSB HC d0 hr' HB hnl' hal'
          go_wp2_with fail
          go_region
          go_wp2_with fail
          clear d0 d2 d3 hr'
          generalize hA2 : (if c = a2 then A else A.map (·.add a2)) = A2 at HSB
          have HA2 := hid hA2
          clear hA2
          have HST := hid (show BtS w1 m xs (fun j => decide (18 ≤ j)) (fun _ => .pointer none) w1.drew.drew from ⟨(Below.refl _ _).drew.drew, (fun e => by cases e), (fun e => by cases e), (fun e => by cases e)⟩)
          refine wp_region_invG 71 (.pointer none) (rbVal g m A n c A2 a2) (BtS w1 m xs) (by kernel_rfl) (by kernel_rfl) (by exact Nat.le_refl 71) ?_ ?_ ?_
          · exact HST.out
          · intro i o f gh a W hi hf hdep hsame hcl hval hS
            rcases i with _ | _ | _ | _ | _ | _ | _ | _ | _ | _ | _ | _ | _ | _ | _ | _ | _ | _ | i
            all_goals simp only [List.getElem?_cons_succ, List.getElem?_cons_zero, List.getElem?_nil, Option.some.injEq, reduceCtorEq] at hi
            all_goals subst hi
            · have n16 := not_yet hcl hf 16 (by rfl)
              have n17 := not_yet hcl n16 17 (by rfl)
              refine g_plain rfl ?_
              exact does_value (w' := W.alloc (.cells #[] 5)) (v := .slice (some ⟨W.heap.size, 0, none⟩) 0 0) (by go_simp) ⟨.slice (some ⟨W.heap.size, 0, none⟩) 0 0, .inr rfl, hS.s0 n16 n17⟩
            · have E0 : a.tmps[0]? = some (.pointer (some ⟨g, 0, none⟩)) := (same_of hsame 0 (by rfl)).trans rfl
              refine g_plain rfl ?_
              exact does_value (w' := W) (v := .pointer (some ⟨g, 0, none⟩)) (by go_simp) ⟨(.pointer none), .inr rfl, hS.step 1 (.pointer none) (by decide) (by decide) (by decide)⟩
            · have E45 := hval 1 _ 45 rfl rfl (dep_of hdep 1 (by rfl))
              unfold rbVal at E45
              refine g_plain rfl ?_
              exact does_value (w' := W) (v := .pointer (some ⟨g, 0, none⟩)) (by go_simp) ⟨(.pointer none), .inr rfl, hS.step 2 (.pointer none) (by decide) (by decide) (by decide)⟩
            · have E46 := hval 2 _ 46 rfl rfl (dep_of hdep 2 (by rfl))
              unfold rbVal at E46
              refine g_plain rfl ?_
              exact does_value (w' := W) (v := .pointer (some ⟨g, 0, none⟩)) (by go_simp) ⟨(.pointer none), .inr rfl, hS.step 3 (.pointer none) (by decide) (by decide) (by decide)⟩
            · have E47 := hval 3 _ 47 rfl rfl (dep_of hdep 3 (by rfl))
              unfold rbVal at E47
              obtain ⟨c0, c1⟩ := HC.out W hS.bel
              refine g_plain rfl ?_
              exact does_value (w' := W) (v := .slice A n c) (by go_simp) ⟨(.pointer none), .inr rfl, hS.step 4 (.pointer none) (by decide) (by decide) (by decide)⟩
            · have E0 : a.tmps[0]? = some (.pointer (some ⟨g, 0, none⟩)) := (same_of hsame 0 (by rfl)).trans rfl
              refine g_plain rfl ?_
              exact does_value (w' := W) (v := .pointer (some ⟨g, 0, none⟩)) (by go_simp) ⟨(.pointer none), .inr rfl, hS.step 5 (.pointer none) (by decide) (by decide) (by decide)⟩
            · have E49 := hval 5 _ 49 rfl rfl (dep_of hdep 5 (by rfl))
              unfold rbVal at E49
              refine g_plain rfl ?_
              exact does_value (w' := W) (v := .pointer (some ⟨g, 0, none⟩)) (by go_simp) ⟨(.pointer none), .inr rfl, hS.step 6 (.pointer none) (by decide) (by decide) (by decide)⟩
            · have E50 := hval 6 _ 50 rfl rfl (dep_of hdep 6 (by rfl))
              unfold rbVal at E50
              refine g_plain rfl ?_
              exact does_value (w' := W) (v := .pointer (some ⟨g, 1, none⟩)) (by go_simp) ⟨(.pointer none), .inr rfl, hS.step 7 (.pointer none) (by decide) (by decide) (by decide)⟩
            · have E51 := hval 7 _ 51 rfl rfl (dep_of hdep 7 (by rfl))
              unfold rbVal at E51
              obtain ⟨c0, c1⟩ := HC.out W hS.bel
              refine g_plain rfl ?_
              exact does_value (w' := W) (v := .int .i64 (a2 : Int)) (by go_simp) ⟨(.pointer none), .inr rfl, hS.step 8 (.pointer none) (by decide) (by decide) (by decide)⟩
            · have E0 : a.tmps[0]? = some (.pointer (some ⟨g, 0, none⟩)) := (same_of hsame 0 (by rfl)).trans rfl
              refine g_plain rfl ?_
              exact does_value (w' := W) (v := .pointer (some ⟨g, 0, none⟩)) (by go_simp) ⟨(.pointer none), .inr rfl, hS.step 9 (.pointer none) (by decide) (by decide) (by decide)⟩
            · have E53 := hval 9 _ 53 rfl rfl (dep_of hdep 9 (by rfl))
              unfold rbVal at E53
              refine g_plain rfl ?_
              exact does_value (w' := W) (v := .pointer (some ⟨g, 0, none⟩)) (by go_simp) ⟨(.pointer none), .inr rfl, hS.step 10 (.pointer none) (by decide) (by decide) (by decide)⟩
            · have E54 := hval 10 _ 54 rfl rfl (dep_of hdep 10 (by rfl))
              unfold rbVal at E54
              refine g_plain rfl ?_
              exact does_value (w' := W) (v := .pointer (some ⟨g, 1, none⟩)) (by go_simp) ⟨(.pointer none), .inr rfl, hS.step 11 (.pointer none) (by decide) (by decide) (by decide)⟩
            · have E55 := hval 11 _ 55 rfl rfl (dep_of hdep 11 (by rfl))
              unfold rbVal at E55
              obtain ⟨c0, c1⟩ := HC.out W hS.bel
              refine g_plain rfl ?_
              exact does_value (w' := W) (v := .int .i64 (a2 : Int)) (by go_simp) ⟨(.pointer none), .inr rfl, hS.step 12 (.pointer none) (by decide) (by decide) (by decide)⟩
            · have E6 : a.tmps[6]? = some (.int .i64 (m : Int)) := (same_of hsame 6 (by rfl)).trans rfl
              refine g_plain rfl ?_
              exact does_value (w' := W) (v := .int .i64 (m : Int)) (by go_simp) ⟨(.pointer none), .inr rfl, hS.step 13 (.pointer none) (by decide) (by decide) (by decide)⟩
            · have E56 := hval 12 _ 56 rfl rfl (dep_of hdep 12 (by rfl))
              have E57 := hval 13 _ 57 rfl rfl (dep_of hdep 13 (by rfl))
              unfold rbVal at E56 E57
              obtain ⟨k1, k2, k3⟩ := HB.out
              have e1 : IntKind.i64.wrap ((a2 : Int) + (m : Int)) = (a2 : Int) + (m : Int) := IntWalk.i64_in _ (by omega)
              refine g_plain rfl ?_
              exact does_value (w' := W) (v := .int .i64 ((a2 : Int) + (m : Int))) (by go_simp) ⟨(.pointer none), .inr rfl, hS.step 14 (.pointer none) (by decide) (by decide) (by decide)⟩
            · have E48 := hval 4 _ 48 rfl rfl (dep_of hdep 4 (by rfl))
              have E52 := hval 8 _ 52 rfl rfl (dep_of hdep 8 (by rfl))
              have E58 := hval 14 _ 58 rfl rfl (dep_of hdep 14 (by rfl))
              unfold rbVal at E48 E52 E58
              obtain ⟨k1, k2, k3⟩ := HB.out
              have hA2 := HA2.out
              have e1 : (0 : Int) ≤ (a2 : Int) + (m : Int) := by omega
              have e2 : (a2 : Int) + (m : Int) ≤ (c : Int) := by omega
              have e3 : ((a2 : Int) + (m : Int)).toNat = a2 + m := by omega
              have e4 : a2 ≤ a2 + m := by omega
              have e6 : a2 + m - a2 = m := by omega
              refine g_plain rfl ?_
              exact does_value (w' := W) (v := .slice A2 m (c - a2)) (by go_simp) ⟨(.pointer none), .inr rfl, hS.step 15 (.pointer none) (by decide) (by decide) (by decide)⟩
            · have E44 := hval 0 _ 44 rfl rfl (dep_of hdep 0 (by rfl))
              have E59 := hval 15 _ 59 rfl rfl (dep_of hdep 15 (by rfl))
              unfold rbVal at E44 E59
              have n17 := not_yet hcl hf 17 (by rfl)
              refine g_plain rfl ?_
              obtain ⟨k1, k2, k3⟩ := HB.out
              refine does_append_bytes _ _ rfl (base := w1.heap.size) (B := B) (gh 0) (by rw [eval_getD, E44]; rfl) (hS.o0 (dep_of hdep 0 (by rfl)) hf) m (c - a2) A2 (by rw [eval_getD, E59]; rfl) (HSB.out W hS.bel) (by omega) hS.bel.size ?_
              intro v' W' ho hb
              exact ⟨v', .inr rfl, hS.s16 (dep_of hdep 0 (by rfl)) n17 (by simpa using ho) hb⟩
            · have E60 := hval 16 _ 60 rfl rfl (dep_of hdep 16 (by rfl))
              unfold rbVal at E60
              refine g_plain rfl ?_
              exact does_value (w' := W) (v := gh 16) (by go_simp) ⟨gh 16, .inr rfl, hS.s17 (dep_of hdep 16 (by rfl)) hf⟩
          · intro gh W hS
            have HO := hid (hS.o17 rfl)
            have HB9 := hid hS.bel
            clear hS
            simp only [putAll, rbVal, Nat.reduceAdd, Nat.zero_add, Act.put, List.setIfInBounds_toArray, List.set_cons_zero, List.set_cons_succ]
            generalize gh 17 = v9 at HO ⊢
            obtain ⟨e1, f1⟩ := HFZ.out W HB9.out
            have HQ := hid (HP.out v9 W HO.out HB9.out)
            have HS := hid (show (a2 : Int) + (m : Int) = ((a2 + m : Nat) : Int) from by omega)
            rw [← HS.out] at HQ
            have HNE := hid HB.out
            clear HB HSB HC HST HFZ HP
            go_wp2_with fail
            exact HQ.out
theorem refRText_calls (most : Int) (h : RfB w g B c A bs s) :
    Calls Try.prog 39 #[.pointer (some ⟨g, 0, none⟩), .int .i64 most] w fun e w' => e = .returned (.string (strB (sizedS bs most s).1)) ∧ RfP w g B c A bs (sizedS bs most s).2 w' := by
  have HN := hid (refRBytes_calls g B c A bs s w most h)
  generalize sizedS bs most s = q at HN ⊢
  clear h
  go_enter Try.func39, Try.ntmps39
  go_wp2_with fail
  refine HN.out.mono ?_
  rintro _ w1 ⟨v, rfl, ho, hp⟩
  obtain ⟨A1, c1, rfl, -, hs, -⟩ := ho.sb
  have hc := run_str (P := Try.prog) hs c1 31 9 5 Try.underlying31 Try.underlying5 Try.underlying9
  have HP := hid hp
  clear hp ho hs HN
  go_wp2_with fail
  go_ret
  exact ⟨rfl, HP.out⟩
end
end Go.Proofs.Ytcpkjpeimnaimaa
/- Contract: a reader of the plain reference: ID. -/
namespace Go.Proofs.Ytcpkjpeimnaimaa
open Go.RowKit

/-- a drawn region that reads, and writes once, by operation it: T holds behind it -/
structure Wr1 (wd : World) (it : Nat) (T : World → Prop) (f : Nat → Bool) (_gh : Nat → Value) (W : World) : Prop where
  pre : f it = false → W = wd
  post : f it = true → T W
section
variable {wd W W' : World} {it : Nat} {T : World → Prop} {f : Nat → Bool} {gh gh' : Nat → Value}
theorem Wr1.step (h : Wr1 wd it T f gh W) (i : Nat) (hi : it ≠ i) : Wr1 wd it T (upd f i) gh' W := ⟨by rw [ap_ne hi]; exact h.pre, by rw [ap_ne hi]; exact h.post⟩
theorem Wr1.done (h : T W') : Wr1 wd it T (upd f it) gh' W' := ⟨fun e => (by rw [ap_eq] at e; cases e), fun _ => h⟩
end
theorem wpList_bz0 {P : Program} {ops : Array Oper} {rest : List Oper} {o : Oper} {a : Act} {w : World} {Q : Exit → Act → World → Prop} (hgd : o.guard = none) (t : TypeId) (ho : o.op = .build t #[]) (v : Value) (hr : ∀ W, (Instr.build t #[]).run P W = .ok v W) (h : wpList P ops Q rest (a.put o.dst v) w) : wpList P ops Q (o :: rest) a w := by
  refine wpList_plain hgd fun K hK => ?_
  unfold Oper.wp execOp
  simp only [ho, List.map_toArray, List.map_nil, Sem.run_bind, Sem.run_pure, Result.andThen_ok, hr]
  exact hK _ _ h
theorem run_bid (W : World) : (Instr.build 33 #[]).run Try.prog W = .ok (.agg (bcells (zeroB 32))) W := by kernel_rfl
/-- an ID's bytes, as far as they are read -/
def idP (bs : List UInt8) (a k : Nat) : List UInt8 := (bs.drop a).take k ++ zeroB (32 - k)
theorem idP_zero (bs : List UInt8) (a : Nat) : idP bs a 0 = zeroB 32 := rfl
theorem idP_len {bs : List UInt8} {a k : Nat} (hk : k ≤ 32) (ha : a + 32 ≤ bs.length) : (idP bs a k).length = 32 := by
  unfold idP zeroB; rw [List.length_append, List.length_take, List.length_drop, List.length_replicate]; omega
theorem idP_set {bs : List UInt8} {a k : Nat} {x : UInt8} (hk : k < 32) (ha : a + 32 ≤ bs.length) (hx : bs[a + k]? = some x) : (bcells (idP bs a k)).setIfInBounds k (bv x) = bcells (idP bs a (k + 1)) := by
  have hl : ((bs.drop a).take k).length = k := by rw [List.length_take, List.length_drop]; omega
  have hz : zeroB (32 - k) = 0 :: zeroB (32 - (k + 1)) := by rw [zeroB, zeroB, show 32 - k = (32 - (k + 1)) + 1 by omega, List.replicate_succ]
  have hx2 : (bs.drop a)[k]? = some x := by rw [List.getElem?_drop]; exact hx
  have ht : (bs.drop a).take (k + 1) = (bs.drop a).take k ++ [x] := by
    rw [List.take_add_one, hx2]; rfl
  have : (idP bs a k).set k x = idP bs a (k + 1) := by
    unfold idP
    rw [hz, List.set_append_right _ _ (by omega), hl, Nat.sub_self, List.set_cons_zero, ht, List.append_assoc]; rfl
  rw [← this]; simp [bcells, List.map_set]
theorem idP_at {bs : List UInt8} {a k : Nat} (hk : k < 32) (ha : a + 32 ≤ bs.length) : (bcells (idP bs a k))[k]? = some (.int .u8 0) := by
  have hl : ((bs.drop a).take k).length = k := by rw [List.length_take, List.length_drop]; omega
  have : (idP bs a k)[k]? = some 0 := by
    unfold idP
    rw [List.getElem?_append_right (by omega), hl, Nat.sub_self, zeroB, List.getElem?_replicate, if_pos (by omega)]
  rw [bcells, List.getElem?_toArray, List.getElem?_map, this]; rfl
theorem idP_end {bs : List UInt8} {a : Nat} : idP bs a 32 = (bs.drop a).take 32 := by unfold idP zeroB; simp
def riVal (b : Nat) (g : Nat) (n : Nat) (c : Nat) (k : Nat) (Z : Nat) (a1 : Nat) (off : Nat) (xn : Nat) : Nat → Value → Value
  | 0, _ => .int .i64 (k : Int)
  | 1, _ => .pointer (some ⟨g, 0, none⟩)
  | 2, _ => .pointer (some ⟨g, 0, none⟩)
  | 3, _ => .pointer (some ⟨g, 0, none⟩)
  | 4, _ => .slice (some ⟨b, off, none⟩) n c
  | 5, _ => .pointer (some ⟨g, 0, none⟩)
  | 6, _ => .pointer (some ⟨g, 0, none⟩)
  | 7, _ => .pointer (some ⟨g, 1, none⟩)
  | 8, _ => .int .i64 (a1 : Int)
  | 9, _ => .int .i64 (k : Int)
  | 10, _ => .int .i64 ((a1 : Int) + (k : Int))
  | 11, _ => .pointer (some ⟨b, off + (a1 + k), none⟩)
  | 12, _ => .int .u8 (xn : Int)
  | 13, _ => .pointer (some ⟨Z + 1, k, none⟩)
  | _, _ => undef
section
variable (g B c : Nat) (A : Option Addr) (bs : List UInt8) (s : RS) (w : World)
/-- the two blocks of ID: the result's and the variable's -/
structure IdR (w W : World) (g B c : Nat) (A : Option Addr) (bs : List UInt8) (s : RS) (z cD : Array Value) : Prop where
  src : RfB W g B c A bs s
  chg : Chg [g] w W
  gl : g < w.heap.size
  bR : Blk W w.heap.size 33 z
  bD : Blk W (w.heap.size + 1) 33 cD
theorem IdR.fin {w W : World} {g B c : Nat} {A : Option Addr} {bs : List UInt8} {s : RS} {z cD : Array Value} (h : IdR w W g B c A bs s z cD) (cs : Array Value) : RfP w g B c A bs s (W.setRow w.heap.size cs) := by
  have hc : Chg [w.heap.size] W (W.setRow w.heap.size cs) := Chg.of_grown (grown_setRow W _ cs) (fun g e => by cases e; simp)
  have hB := h.src.hB
  have hgl := h.gl
  exact ⟨h.src.chg hc (by simp; omega) (fun b hb hm => by simp at hm; omega), h.chg.trans hc (fun b hb => .inr (by simp at hb; omega))⟩
set_option maxRecDepth 20000 in
set_option maxHeartbeats 2000000 in
theorem refRID_calls (h : RfB w g B c A bs s) :
    Calls Try.prog 43 #[.pointer (some ⟨g, 0, none⟩)] w fun e w' => e = .returned (.agg (bcells (idS bs s).1)) ∧ RfP w g B c A bs (idS bs s).2 w' := by
  have hz := (zero_of_info info26).1
  obtain ⟨k0, k1, hb⟩ : Blk ((w.alloc (.cells (bcells (zeroB 32)) 33)).alloc (.cells (bcells (zeroB 32)) 33)) w.heap.size 33 (bcells (zeroB 32)) ∧ Blk ((w.alloc (.cells (bcells (zeroB 32)) 33)).alloc (.cells (bcells (zeroB 32)) 33)) (w.heap.size + 1) 33 (bcells (zeroB 32)) ∧ Below w.heap.size w ((w.alloc (.cells (bcells (zeroB 32)) 33)).alloc (.cells (bcells (zeroB 32)) 33)) :=
    ⟨(Blk.new w 33 (bcells (zeroB 32))).alloc _, (by have := Blk.new (w.alloc (.cells (bcells (zeroB 32)) 33)) 33 (bcells (zeroB 32)); rw [size_new] at this; exact this), (below_new w _).alloc (by rw [size_new]; omega) _⟩
  have HI := hid (show IdR w ((w.alloc (.cells (bcells (zeroB 32)) 33)).alloc (.cells (bcells (zeroB 32)) 33)) g B c A bs s (bcells (zeroB 32)) (bcells (zeroB 32)) from ⟨h.keep hb, Chg.of_below hb, h.lt, k0, k1⟩)
  have HRB := hid run_bid
  have EI := hid info26b
  have HO1 := hid (bcells_oneCell (zeroB 32))
  clear k0 k1 hb
  generalize hw1 : (w.alloc (.cells (bcells (zeroB 32)) 33)).alloc (.cells (bcells (zeroB 32)) 33) = w1 at HI
  obtain ⟨⟨a1, h1⟩, hnc⟩ := HI.out.src
  have d0 : w1.cell? ⟨g, 0, none⟩ = some (.slice A bs.length c) := h1.1.cell 0 rfl
  have d1 : w1.cell? ⟨g, 1, none⟩ = some (.int .i64 (a1 : Int)) := h1.1.cell 1 rfl
  have d2 : w1.cell? ⟨g, 2, none⟩ = some (.int .i64 (s.err : Int)) := h1.1.cell 2 rfl
  cases s with
  | bad e p =>
    have he : ¬ (e : Int) = 0 := by have := h.good.1; omega
    have HFN := hid (show (bcells (idS bs (.bad e p)).1) = bcells (zeroB 32) ∧ (idS bs (.bad e p)).2 = .bad e p from ⟨rfl, rfl⟩)
    rw [show (RS.bad e p).err = e from rfl] at d2
    generalize idS bs (.bad e p) = q at HFN ⊢
    generalize bcells (zeroB 32) = z at *
    have HR := hid HI.out.bR
    have HF := hid (HI.out.fin z)
    clear h h1 d0 d1
    go_enter Try.func43, Try.ntmps43
    go_wp2_with (first | (refine wpList_bz0 rfl 33 rfl _ HRB.out ?_) | ((refine wpList_store_blk rfl 33 _ _ rfl w.heap.size _ rfl rfl 33 _ HR.out EI.out rfl HO1.out ?_)))
    refine bodyPost_ret (v := .agg z) (results_cell_row rfl _ _ w.heap.size 33 _ (0, 0) _ rfl (HR.out.setRow _) Try.underlying33 rfl EI.out) rfl ⟨by rw [HFN.out.1], by rw [HFN.out.2]; exact HF.out⟩
  | ok a =>
    obtain rfl := h1.2.2.2.2.2.2 a rfl
    have hal : a1 ≤ bs.length := h1.2.2.2.1
    have hnl : bs.length ≤ 549755813888 := h1.2.2.2.2.1
    rw [show ((RS.ok a1).err : Int) = 0 from rfl] at d2
    have hnl' : (bs.length : Int) ≤ 549755813888 := by omega
    have hal' : (a1 : Int) ≤ (bs.length : Int) := by omega
    by_cases hsh : bs.length - a1 < 32
    · have HFN := hid (show (bcells (idS bs (.ok a1)).1) = bcells (zeroB 32) ∧ (idS bs (.ok a1)).2 = .bad 6 a1 from by
        have : takeS bs 32 a1 (.ok a1) = ([], .bad 6 a1) := if_pos hsh
        unfold idS
        dsimp only
        rw [this]; exact ⟨rfl, rfl⟩)
      have hsh' : (bs.length : Int) - (a1 : Int) < 32 := by omega
      have HFL := hid (refFail_calls g B bs.length c A bs a1 (.ok a1) 6 a1 w1.drew h1.drew (by omega) hal)
      have HN := hid hnc
      have HGO := hid (fun w' (h2 : RrB w' g B bs.length c A bs a1 (.bad 6 a1)) (h3 : Chg [g] w1.drew w') => (⟨⟨⟨a1, h2⟩, HN.out⟩, HI.out.chg.drew.trans h3 (fun _ hb => .inl hb), HI.out.gl, HI.out.bR.drew.chg h3 (by have := HI.out.gl; simp; omega), HI.out.bD.drew.chg h3 (by have := HI.out.gl; simp; omega)⟩ : IdR w w' g B c A bs (.bad 6 a1) (bcells (zeroB 32)) (bcells (zeroB 32))))
      generalize idS bs (.ok a1) = q at HFN ⊢
      generalize bcells (zeroB 32) = z at *
      clear h h1 hsh hal hnl hnc
      generalize bs.length = n at d0 hnl' hal' hsh'
      go_enter Try.func43, Try.ntmps43
      go_wp2_with fail
      go_region
      go_wp2_with fail
      clear hw1 d0 d1 d2
      refine HFL.out.mono ?_
      rintro _ w2 ⟨rfl, h2, h3⟩
      have HI2 := hid (HGO.out w2 h2 h3)
      have HR := hid HI2.out.bR
      have HF := hid (HI2.out.fin z)
      clear h2 h3 HFL HGO HI HN
      go_wp2_with (first | (refine wpList_bz0 rfl 33 rfl _ HRB.out ?_) | ((refine wpList_store_blk rfl 33 _ _ rfl w.heap.size _ rfl rfl 33 _ HR.out EI.out rfl HO1.out ?_)))
      refine bodyPost_ret (v := .agg z) (results_cell_row rfl _ _ w.heap.size 33 _ (0, 0) _ rfl (HR.out.setRow _) Try.underlying33 rfl EI.out) rfl ⟨by rw [HFN.out.1], by rw [HFN.out.2]; exact HF.out⟩
    · have hfit : a1 + 32 ≤ bs.length := by omega
      have hsh' : ¬ (bs.length : Int) - (a1 : Int) < 32 := by omega
      have HFN := hid (show (idS bs (.ok a1)).1 = idP bs a1 32 ∧ (idS bs (.ok a1)).2 = .ok (a1 + 32) from by
        have : takeS bs 32 a1 (.ok a1) = ((bs.drop a1).take 32, .ok (a1 + 32)) := if_neg hsh
        unfold idS
        dsimp only
        rw [this, idP_end]
        refine ⟨?_, rfl⟩
        unfold fill32
        rw [if_pos (by rw [List.length_take, List.length_drop]; omega)])
      have HFIT := hid hfit
      have HSB := hid h1.2.1
      have HNN := hid hnc
      have HP0 := hid (idP_zero bs a1)
      have HST := hid (show IdR w w1.drew g B c A bs (.ok a1) (bcells (zeroB 32)) (bcells (idP bs a1 0)) from ⟨HI.out.src.drew, HI.out.chg.drew, HI.out.gl, HI.out.bR, by rw [idP_zero]; exact HI.out.bD⟩)
      obtain ⟨b, off, rfl, hbB, -⟩ := h1.2.1.2 (by omega)
      generalize idS bs (.ok a1) = q at HFN ⊢
      have HBL := hid (show bs.length = bs.length from rfl)
      generalize hzz : bcells (zeroB 32) = z at hz hw1 HO1 EI HRB HST
      have HZZ := hid hzz
      clear hzz
      clear h h1 hsh hfit hal hnl hnc HI
      generalize hn : bs.length = n at d0 hnl' hal' hsh'
      have HBN := hid hn
      clear hn HBL hbB
      go_enter Try.func43, Try.ntmps43
      go_wp2_with fail
      go_region
      go_wp2_with fail
      clear hw1 d0 d1 d2 hz hsh'
      obtain ⟨D, hD⟩ : ∃ D, D = w.heap.size + 1 := ⟨_, rfl⟩
      go_loopw [4] (fun i wr => ∃ k : Nat, i = .int .i64 (k : Int) ∧ k ≤ 32 ∧ Hid (IdR w wr g B c (some ⟨b, off, none⟩) bs (.ok a1) z (bcells (idP bs a1 k)))) (fun i _ => 32 - (intOf i).toNat)
      case atStart => exact ⟨0, rfl, Nat.zero_le _, HST⟩
      case round =>
        clear HST
        obtain ⟨k, rfl, hk, HI⟩ := hrel
        by_cases hlt : k < 32
        · obtain ⟨x, hx⟩ : ∃ x, bs[a1 + k]? = some x := ⟨_, List.getElem?_eq_getElem (by have := HFIT.out; omega)⟩
          have hlt' : (k : Int) < 32 := by omega
          have HNX := hid (show IdR w (wr.drew.setCell ⟨w.heap.size + 1, k, none⟩ (.int .u8 (x.toNat : Int))) g B c (some ⟨b, off, none⟩) bs (.ok a1) z (bcells (idP bs a1 (k + 1))) from by
            have h := HI.out
            have hB := h.src.hB
            have hgl := h.gl
            have hc : Chg [w.heap.size + 1] wr.drew (wr.drew.setCell ⟨w.heap.size + 1, k, none⟩ (.int .u8 (x.toNat : Int))) := chg_set (by simp) k _
            refine ⟨h.src.drew.chg hc (by simp; omega) (fun b hb hm => by simp at hm; omega), h.chg.drew.trans hc (fun b hb => .inr (by simp at hb; omega)), hgl, h.bR.drew.chg hc (by simp), ?_⟩
            rw [← idP_set hlt HFIT.out hx]
            exact h.bD.drew.set_ k _)
          have HC := hid (show ∀ W, W = wr.drew → W.cell? ⟨g, 0, none⟩ = some (.slice (some ⟨b, off, none⟩) n c) ∧ W.cell? ⟨g, 1, none⟩ = some (.int .i64 (a1 : Int)) ∧ W.cell? ⟨b, off + (a1 + k), none⟩ = some (.int .u8 (x.toNat : Int)) ∧ W.cell? ⟨w.heap.size + 1, k, none⟩ = some (.int .u8 0) ∧ W.frozen? ⟨w.heap.size + 1, k, none⟩ = false from fun W e => by
            subst e
            have h := HI.out
            obtain ⟨⟨a2, h2⟩, -⟩ := h.src
            obtain rfl := h2.2.2.2.2.2.2 a1 rfl
            obtain ⟨b', off', e', -, hc'⟩ := h2.2.1.2 (by have := HFIT.out; omega)
            injection e' with e'
            injection e' with e1 e2
            subst e1 e2
            refine ⟨by rw [← HBN.out]; exact h2.1.cell 0 rfl, h2.1.cell 1 rfl, hc' _ x hx, h.bD.drew.cell k (idP_at hlt HFIT.out), h.bD.drew.frozen k⟩)
          have HAK := hid (show a1 + k < n ∧ n ≤ 549755813888 ∧ k < 32 from ⟨by have := HFIT.out; have := HBN.out; omega, by omega, hlt⟩)
          have HS1 := hid (show Wr1 wr.drew 14 (fun W => W = wr.drew.setCell ⟨w.heap.size + 1, k, none⟩ (.int .u8 (x.toNat : Int))) (fun j => decide (15 ≤ j)) (fun _ => .pointer none) wr.drew from ⟨fun _ => rfl, fun e => by simp at e⟩)
          clear hlt HI hx
          generalize x.toNat = xn at HNX HC HS1
          generalize hZ : w.heap.size = Z at HC HS1 ⊢
          have HZ := hid hZ
          clear hZ
          go_wp2_with fail
          refine wp_region_invG 59 (.pointer none) (riVal b g n c k Z a1 off xn) (Wr1 wr.drew 14 (fun W => W = wr.drew.setCell ⟨Z + 1, k, none⟩ (.int .u8 (xn : Int)))) (by kernel_rfl) (by kernel_rfl) (by exact Nat.le_refl 59) ?_ ?_ ?_
          · exact HS1.out
          · intro i o f gh a W hi hf hdep hsame hcl hval hS
            rcases i with _ | _ | _ | _ | _ | _ | _ | _ | _ | _ | _ | _ | _ | _ | _ | i
            all_goals simp only [List.getElem?_cons_succ, List.getElem?_cons_zero, List.getElem?_nil, Option.some.injEq, reduceCtorEq] at hi
            all_goals subst hi
            · have E4 : a.tmps[4]? = some (.int .i64 (k : Int)) := (same_of hsame 4 (by rfl)).trans rfl
              refine g_plain rfl ?_
              exact does_value (w' := W) (v := .int .i64 (k : Int)) (by go_simp) ⟨(.pointer none), .inr rfl, hS.step 0 (by decide)⟩
            · have E0 : a.tmps[0]? = some (.pointer (some ⟨g, 0, none⟩)) := (same_of hsame 0 (by rfl)).trans rfl
              refine g_plain rfl ?_
              exact does_value (w' := W) (v := .pointer (some ⟨g, 0, none⟩)) (by go_simp) ⟨(.pointer none), .inr rfl, hS.step 1 (by decide)⟩
            · have E37 := hval 1 _ 37 rfl rfl (dep_of hdep 1 (by rfl))
              unfold riVal at E37
              refine g_plain rfl ?_
              exact does_value (w' := W) (v := .pointer (some ⟨g, 0, none⟩)) (by go_simp) ⟨(.pointer none), .inr rfl, hS.step 2 (by decide)⟩
            · have E38 := hval 2 _ 38 rfl rfl (dep_of hdep 2 (by rfl))
              unfold riVal at E38
              refine g_plain rfl ?_
              exact does_value (w' := W) (v := .pointer (some ⟨g, 0, none⟩)) (by go_simp) ⟨(.pointer none), .inr rfl, hS.step 3 (by decide)⟩
            · have E39 := hval 3 _ 39 rfl rfl (dep_of hdep 3 (by rfl))
              unfold riVal at E39
              have n11 := not_yet hcl hf 11 (by rfl)
              have n12 := not_yet hcl n11 12 (by rfl)
              have n14 := not_yet hcl n12 14 (by rfl)
              obtain ⟨c0, c1, c2, c3, f3⟩ := HC.out W (hS.pre n14)
              refine g_plain rfl ?_
              exact does_value (w' := W) (v := .slice (some ⟨b, off, none⟩) n c) (by go_simp) ⟨(.pointer none), .inr rfl, hS.step 4 (by decide)⟩
            · have E0 : a.tmps[0]? = some (.pointer (some ⟨g, 0, none⟩)) := (same_of hsame 0 (by rfl)).trans rfl
              refine g_plain rfl ?_
              exact does_value (w' := W) (v := .pointer (some ⟨g, 0, none⟩)) (by go_simp) ⟨(.pointer none), .inr rfl, hS.step 5 (by decide)⟩
            · have E41 := hval 5 _ 41 rfl rfl (dep_of hdep 5 (by rfl))
              unfold riVal at E41
              refine g_plain rfl ?_
              exact does_value (w' := W) (v := .pointer (some ⟨g, 0, none⟩)) (by go_simp) ⟨(.pointer none), .inr rfl, hS.step 6 (by decide)⟩
            · have E42 := hval 6 _ 42 rfl rfl (dep_of hdep 6 (by rfl))
              unfold riVal at E42
              refine g_plain rfl ?_
              exact does_value (w' := W) (v := .pointer (some ⟨g, 1, none⟩)) (by go_simp) ⟨(.pointer none), .inr rfl, hS.step 7 (by decide)⟩
            · have E43 := hval 7 _ 43 rfl rfl (dep_of hdep 7 (by rfl))
              unfold riVal at E43
              have n10 := not_yet hcl hf 10 (by rfl)
              have n11 := not_yet hcl n10 11 (by rfl)
              have n12 := not_yet hcl n11 12 (by rfl)
              have n14 := not_yet hcl n12 14 (by rfl)
              obtain ⟨c0, c1, c2, c3, f3⟩ := HC.out W (hS.pre n14)
              refine g_plain rfl ?_
              exact does_value (w' := W) (v := .int .i64 (a1 : Int)) (by go_simp) ⟨(.pointer none), .inr rfl, hS.step 8 (by decide)⟩
            · have E4 : a.tmps[4]? = some (.int .i64 (k : Int)) := (same_of hsame 4 (by rfl)).trans rfl
              refine g_plain rfl ?_
              exact does_value (w' := W) (v := .int .i64 (k : Int)) (by go_simp) ⟨(.pointer none), .inr rfl, hS.step 9 (by decide)⟩
            · have E44 := hval 8 _ 44 rfl rfl (dep_of hdep 8 (by rfl))
              have E45 := hval 9 _ 45 rfl rfl (dep_of hdep 9 (by rfl))
              unfold riVal at E44 E45
              obtain ⟨k1, k2, k3⟩ := HAK.out
              have e1 : IntKind.i64.wrap ((a1 : Int) + (k : Int)) = (a1 : Int) + (k : Int) := IntWalk.i64_in _ (by omega)
              refine g_plain rfl ?_
              exact does_value (w' := W) (v := .int .i64 ((a1 : Int) + (k : Int))) (by go_simp) ⟨(.pointer none), .inr rfl, hS.step 10 (by decide)⟩
            · have E40 := hval 4 _ 40 rfl rfl (dep_of hdep 4 (by rfl))
              have E46 := hval 10 _ 46 rfl rfl (dep_of hdep 10 (by rfl))
              unfold riVal at E40 E46
              obtain ⟨k1, k2, k3⟩ := HAK.out
              have e1 : (a1 : Int) + (k : Int) < (n : Int) := by omega
              have e2 : (0 : Int) ≤ (a1 : Int) + (k : Int) := by omega
              have e3 : ((a1 : Int) + (k : Int)).toNat = a1 + k := by omega
              refine g_plain rfl ?_
              exact does_value (w' := W) (v := .pointer (some ⟨b, off + (a1 + k), none⟩)) (by go_simp) ⟨(.pointer none), .inr rfl, hS.step 11 (by decide)⟩
            · have E47 := hval 11 _ 47 rfl rfl (dep_of hdep 11 (by rfl))
              unfold riVal at E47
              have n14 := not_yet hcl hf 14 (by rfl)
              obtain ⟨c0, c1, c2, c3, f3⟩ := HC.out W (hS.pre n14)
              refine g_plain rfl ?_
              exact does_value (w' := W) (v := .int .u8 (xn : Int)) (by go_simp) ⟨(.pointer none), .inr rfl, hS.step 12 (by decide)⟩
            · have E36 := hval 0 _ 36 rfl rfl (dep_of hdep 0 (by rfl))
              have E3 : a.tmps[3]? = some (.pointer (some ⟨Z + 1, 0, none⟩)) := (same_of hsame 3 (by rfl)).trans rfl
              unfold riVal at E36
              obtain ⟨k1, k2, k3⟩ := HAK.out
              have e1 : (k : Int) < 32 := by omega
              refine g_plain rfl ?_
              exact does_value (w' := W) (v := .pointer (some ⟨Z + 1, k, none⟩)) (by go_simp) ⟨(.pointer none), .inr rfl, hS.step 13 (by decide)⟩
            · have E49 := hval 13 _ 49 rfl rfl (dep_of hdep 13 (by rfl))
              have E48 := hval 12 _ 48 rfl rfl (dep_of hdep 12 (by rfl))
              unfold riVal at E49 E48
              refine g_plain rfl ?_
              have hW := hS.pre hf
              obtain ⟨c0, c1, c2, c3, f3⟩ := HC.out W hW
              exact does_skip (w' := World.setCell W ⟨Z + 1, k, none⟩ (.int .u8 (xn : Int))) (by clear hW; go_simp) ⟨.pointer none, .inl rfl, Wr1.done (by rw [hW])⟩
          · intro gh W hS
            have HNW := hid (show IdR w W g B c (some ⟨b, off, none⟩) bs (.ok a1) z (bcells (idP bs a1 (k + 1))) from by
              have hW := hS.post rfl
              rw [← HZ.out] at hW
              rw [hW]; exact HNX.out)
            clear hS HNX
            simp only [putAll, riVal, Nat.reduceAdd, Nat.zero_add, Act.put, List.setIfInBounds_toArray, List.set_cons_zero, List.set_cons_succ]
            clear HC HS1
            go_wp2_with fail
            go_roundw
            case rel => exact ⟨k + 1, by go_num, by have := HAK.out; omega, HNW⟩
            case measure => have := HAK.out; simp [intOf]; omega
        · obtain rfl : k = 32 := by omega
          obtain ⟨⟨a2, h2⟩, hcc⟩ := HI.out.src
          obtain rfl := h2.2.2.2.2.2.2 a1 rfl
          have e1 : wr.cell? ⟨g, 1, none⟩ = some (.int .i64 (a2 : Int)) := h2.1.cell 1 rfl
          have f1 := h2.1.frozen 1
          have HS := hid (show (a2 : Int) + 32 = ((a2 + 32 : Nat) : Int) from by omega)
          have hb0 : (a2 : Int) + 32 ≤ 549755813920 := by omega
          have hl := idP_len (bs := bs) (a := a2) (k := 32) (by omega) HFIT.out
          have HIN := hid (show IdR w (wr.setCell ⟨g, 1, none⟩ (.int .i64 ((a2 : Int) + 32))) g B c (some ⟨b, off, none⟩) bs (.ok (a2 + 32)) z (bcells (idP bs a2 32)) from by
            have h := HI.out
            have hgl := h.gl
            have hB := h.src.hB
            have kc : Chg [g] wr (wr.setCell ⟨g, 1, none⟩ (.int .i64 ((a2 : Int) + 32))) := chg_set (by simp) 1 _
            refine ⟨⟨⟨a2 + 32, ?_, h2.2.1.chg kc (fun y _ e hlt hm => by simp at hm; omega), hB, HFIT.out, h2.2.2.2.2.1, HFIT.out, fun a' e => by cases e; rfl⟩, hcc⟩, h.chg.trans kc (fun b hb => .inl hb), hgl, h.bR.chg kc (by simp; omega), h.bD.chg kc (by simp; omega)⟩
            rw [HS.out]
            exact h2.1.set_ 1 _)
          have HEI := hid (size_id hl)
          have HZ2 := hid (show z.size = (bcells (idP bs a2 32)).size from by rw [← HZZ.out, bcells_size, bcells_size, hl]; rfl)
          have HOC := hid (bcells_oneCell (idP bs a2 32))
          have HF1 := hid (show (bcells q.1) = bcells (idP bs a2 32) ∧ q.2 = .ok (a2 + 32) from ⟨by rw [HFN.out.1], HFN.out.2⟩)
          have HF := hid (HIN.out.fin (bcells (idP bs a2 32)))
          clear hl h2 hcc HFN HI hlt hk
          generalize bcells (idP bs a2 32) = y at HIN HEI HZ2 HOC HF1 HF
          have HR := hid HIN.out.bR
          have HD := hid HIN.out.bD
          clear HIN
          go_wp2_with (first | (refine wpList_load_blk rfl 33 _ rfl (w.heap.size + 1) rfl 33 _ HD.out _ _ Try.underlying33 HEI.out ?_) | ((refine wpList_store_blk rfl 33 _ _ rfl w.heap.size _ rfl rfl 33 _ HR.out HEI.out HZ2.out HOC.out ?_)))
          refine bodyPost_ret (v := .agg y) (results_cell_row rfl _ _ w.heap.size 33 _ (0, 0) _ rfl (HR.out.setRow _) Try.underlying33 rfl HEI.out) rfl ⟨by rw [HF1.out.1], by rw [HF1.out.2]; exact HF.out⟩
end
end Go.Proofs.Ytcpkjpeimnaimaa
