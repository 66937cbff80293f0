/- The law BlobConflict, walked. Written by tools/mkbl.py. -/
import Derived.Test.YtoogaapjdlhpbaaDoorBlApart
import Derived.Test.YtoogaapjdlhpbaaDoorBlLists
namespace Go.Proofs.YtoogaapjdlhpbaaDoor
open Go.RowKit Crc

def c12YesVal (bl : Nat) (off : Nat) (n : Nat) (c : Nat) (i : Nat) (k : Nat) (da : List UInt8) (db : List UInt8) (xi : List UInt8) (xk : List UInt8) (Ai : Option Addr) (Ak : Option Addr) (ci : Nat) (ck : Nat) (sb : Bool) : Nat → Unit → Value
  | 0, _ => .agg (bcells da)
  | 1, _ => .agg (bcells db)
  | 2, _ => .bool true
  | 3, _ => .bool true
  | 4, _ => .slice (some ⟨bl, off, none⟩) n c
  | 5, _ => .int .i64 (i : Int)
  | 6, _ => .pointer (some ⟨bl, off + i, none⟩)
  | 7, _ => .slice Ai xi.length ci
  | 8, _ => .slice (some ⟨bl, off, none⟩) n c
  | 9, _ => .int .i64 (k : Int)
  | 10, _ => .pointer (some ⟨bl, off + k, none⟩)
  | 11, _ => .slice Ak xk.length ck
  | 12, _ => .bool sb
  | 13, _ => .bool (!sb)
  | 14, _ => .bool (!sb)
  | _, _ => undef
def c12NoVal (da : List UInt8) (db : List UInt8) : Nat → Unit → Value
  | 0, _ => .agg (bcells da)
  | 1, _ => .agg (bcells db)
  | 2, _ => .bool false
  | 3, _ => .bool false
  | 4, _ => undef
  | 5, _ => undef
  | 6, _ => undef
  | 7, _ => undef
  | 8, _ => undef
  | 9, _ => undef
  | 10, _ => undef
  | 11, _ => undef
  | 12, _ => undef
  | 13, _ => undef
  | 14, _ => .bool false
  | _, _ => undef
def c13Val (bl : Nat) (off : Nat) (n : Nat) (c : Nat) (i : Nat) (k : Nat) (da : List UInt8) (xi : List UInt8) (xk : List UInt8) (Ai : Option Addr) (Ak : Option Addr) (ci : Nat) (ck : Nat) : Nat → Unit → Value
  | 0, _ => .bool true
  | 1, _ => .bool true
  | 2, _ => .agg (bcells da)
  | 3, _ => .slice (some ⟨bl, off, none⟩) n c
  | 4, _ => .int .i64 (k : Int)
  | 5, _ => .pointer (some ⟨bl, off + k, none⟩)
  | 6, _ => .slice Ak xk.length ck
  | 7, _ => .slice (some ⟨bl, off, none⟩) n c
  | 8, _ => .int .i64 (i : Int)
  | 9, _ => .pointer (some ⟨bl, off + i, none⟩)
  | 10, _ => .slice Ai xi.length ci
  | 11, _ => .bool true
  | 12, _ => .bool true
  | 13, _ => .bool true
  | _, _ => undef
set_option maxRecDepth 100000 in
set_option maxHeartbeats 8000000 in
theorem conflict_calls (A : Option Addr) (c : Nat) (l : List (List UInt8)) (w : World) (hL : SLB w w.heap.size A l) (hn : l.length ≤ 9223372036854775807) (hG : Glob w) :
    Calls Tryd.prog 7 #[.slice A l.length c] w fun e w' => e = .returned (.bool true) ∧ Below w.heap.size w w' := by
  have hz := (zero_of_info info26).1
  have HG := hid hG; have HL := hid hL
  clear hL hG
  go_enter Tryd.func7, Tryd.ntmps7
  go_wp2_with fail
  refine (known_calls w HG.out).mono ?_
  rintro _ w1 ⟨rfl, b1⟩
  have HB1 := hid b1
  clear b1
  go_wp2_with fail
  refine (longLists_calls A c l 300 20 w.heap.size w1 (HL.out.keepB HB1.out) hn (by omega) (by omega)).mono ?_
  rintro _ _ ⟨rfl, rfl⟩
  cases hlong : longB l 300 20 with
  | true =>
    go_wp2_with fail
    go_ret
    exact ⟨rfl, HB1.out⟩
  | false =>
    obtain ⟨hn3, hl20⟩ := longB_ok hlong
    have H20 := hid hl20
    clear hlong hl20
    obtain ⟨n, hnl⟩ : ∃ n, l.length = n := ⟨_, rfl⟩
    have HNL := hid hnl
    rw [hnl] at hn3 ⊢
    clear hnl hn
    go_wp2_with fail
    go_loopw [4] (fun v4 wr => ∃ i : Nat, v4 = .int .i64 (i : Int) ∧ i ≤ n ∧ Hid (Below w.heap.size w wr)) (fun v4 _ => n - (intOf v4).toNat)
    case atStart => exact ⟨0, rfl, Nat.zero_le _, HB1⟩
    case round =>
      clear HB1
      obtain ⟨i, rfl, hi, HB⟩ := hrel
      by_cases hlt : i < n
      · have hlt' : (i : Int) < (n : Int) := by omega
        obtain ⟨bl, off, Ai, ci, xi, hA, hbl, hxi, hci, hsi, hcci, -⟩ := HL.out.at_ (k := i) (by rw [HNL.out]; exact hlt)
        subst hA
        have hxl := H20.out xi (List.mem_of_getElem? hxi)
        have hce := (HB.out.cell (p := ⟨bl, off + i, none⟩) hbl).trans hci
        have HCI0 := hid hci; have HSI := hid hsi
        have HO := hid (own_of_calls w.heap.size xi.length ci Ai xi 1 _ (hsi.keepB HB.out) hcci (HG.out.keep HB.out) (by omega))
        rw [show cutE 1 = 0 from rfl, show cutB (sha xi) 1 = digB xi 1 from rfl] at HO
        have HLa := hid (digB_length xi 1)
        generalize hda : digB xi 1 = da at HO HLa
        clear hci hsi
        go_wp2_with fail
        refine HO.out.mono ?_
        rintro _ w2 ⟨rfl, b2⟩
        have HZA := hid (show (Tryd.prog.info? 32).map (·.size) = some (bcells da).size from by rw [bcells_size, HLa.out]; kernel_rfl)
        have HZ3 := hid (show (bcells (zeroB 32)).size = (bcells da).size from by rw [bcells_size, bcells_size, HLa.out]; rfl)
        have HB2 := hid (HB.out.trans (b2.mono HB.out.size))
        obtain ⟨q1, q2⟩ := new_set w2 32 (bcells (zeroB 32)) (bcells da)
        have K3 := hid (Blk.new w2 32 (bcells (zeroB 32)))
        have HB3 := hid (HB2.out.trans (q1.mono HB2.out.size)); have HKA := hid q2
        clear b2 q1 q2 HO HB HB2 hce
        go_wp2_with (refine wpList_store_blk rfl 32 _ _ rfl w2.heap.size _ rfl rfl 32 _ K3.out HZA.out HZ3.out (bcells_oneCell _) ?_)
        generalize (w2.alloc (.cells (bcells (zeroB 32)) 32)).setRow w2.heap.size (bcells da) = w3 at HB3 HKA ⊢
        generalize w2.heap.size = oa at HKA ⊢
        clear K3 HZ3
        go_loopw [7] (fun v7 wr => ∃ k : Nat, v7 = .int .i64 (k : Int) ∧ k ≤ i ∧ Hid (Below w.heap.size w wr) ∧ Hid (Blk wr oa 32 (bcells da))) (fun v7 _ => i - (intOf v7).toNat)
        case atStart => exact ⟨0, rfl, Nat.zero_le _, HB3, HKA⟩
        case round =>
          clear HB3 HKA
          obtain ⟨k, rfl, hk, HB, HKA⟩ := hrel
          by_cases hki : k < i
          · have hki' : (k : Int) < (i : Int) := by omega
            have hkn : k < n := by omega
            have hkn' : (k : Int) < (n : Int) := by omega
            obtain ⟨bl2, off2, Ak, ck, xk, hA2, -, hxk, hck, hsk, hcck, -⟩ := HL.out.at_ (k := k) (by rw [HNL.out]; exact hkn)
            cases hA2
            have hxl2 := H20.out xk (List.mem_of_getElem? hxk)
            have hce := (HB.out.cell (p := ⟨bl, off + k, none⟩) hbl).trans hck
            have HCK0 := hid hck; have HSK := hid hsk
            have HO := hid (own_of_calls w.heap.size xk.length ck Ak xk 1 _ (hsk.keepB HB.out) hcck (HG.out.keep HB.out) (by omega))
            rw [show cutE 1 = 0 from rfl, show cutB (sha xk) 1 = digB xk 1 from rfl] at HO
            have HLb := hid (digB_length xk 1)
            generalize hdb : digB xk 1 = db at HO HLb
            clear hck hsk
            go_wp2_with fail
            refine HO.out.mono ?_
            rintro _ w4 ⟨rfl, b4⟩
            have HZB := hid (show (Tryd.prog.info? 32).map (·.size) = some (bcells db).size from by rw [bcells_size, HLb.out]; kernel_rfl)
            have HZ3 := hid (show (bcells (zeroB 32)).size = (bcells db).size from by rw [bcells_size, bcells_size, HLb.out]; rfl)
            have HB4 := hid (HB.out.trans (b4.mono HB.out.size)); have HKA4 := hid (HKA.out.keep b4)
            obtain ⟨q1, q2⟩ := new_set w4 32 (bcells (zeroB 32)) (bcells db)
            have K3 := hid (Blk.new w4 32 (bcells (zeroB 32)))
            have HB8 := hid (HB4.out.trans (q1.mono HB4.out.size)); have HKB := hid q2; have HKA8 := hid (HKA4.out.keep q1)
            clear b4 q1 q2 HO HB HB4 hce HKA HKA4
            go_wp2_with (refine wpList_store_blk rfl 32 _ _ rfl w4.heap.size _ rfl rfl 32 _ K3.out HZB.out HZ3.out (bcells_oneCell _) ?_)
            generalize (w4.alloc (.cells (bcells (zeroB 32)) 32)).setRow w4.heap.size (bcells db) = w8 at HB8 HKA8 HKB ⊢
            generalize w4.heap.size = ob at HKB ⊢
            clear K3 HZ3
            have HKA := HKA8
            have HCI := hid ((HB8.out.cell (p := ⟨bl, off + i, none⟩) hbl).trans HCI0.out)
            have HCK := hid ((HB8.out.cell (p := ⟨bl, off + k, none⟩) hbl).trans HCK0.out)
            have HLTi := hid (⟨hlt', hlt⟩ : (i : Int) < (n : Int) ∧ i < n)
            have HLTk := hid (⟨hkn', hkn⟩ : (k : Int) < (n : Int) ∧ k < n)
            have HEQ := hid (show ∀ W, (Op.equalIn 10000 32 (.agg (bcells da)) (.agg (bcells db))).run Tryd.prog W = .ok (da == db) W from fun W => run_equal_arr (P := Tryd.prog) 32 5 32 Tryd.underlying32 Tryd.underlying5 (by kernel_rfl) da db HLa.out HLb.out W)
            by_cases hde : da = db
            · rw [show (da == db) = true from by rw [hde]; exact beq_self_eq_true db] at HEQ
              have HDE := hid hde
              clear hde
              have HSB := hid (fun W (hb : Below w8.heap.size w8 W) => sameBytes_calls w.heap.size xi.length ci w.heap.size xk.length ck Ai Ak xi xk W (HSI.out.keepB (HB8.out.trans (hb.mono HB8.out.size))) (HSK.out.keepB (HB8.out.trans (hb.mono HB8.out.size))))
              obtain ⟨sb, hsb⟩ : ∃ sb, (xi == xk) = sb := ⟨_, rfl⟩
              rw [hsb] at HSB
              refine wp_region_invG 70 () (c12YesVal bl off n c i k da db xi xk Ai Ak ci ck sb) (fun _ _ W => Below w8.heap.size w8 W) (by kernel_rfl) (by kernel_rfl) (by exact Nat.le_refl 70) ?_ ?_ ?_
              · exact (Below.refl _ _).drew
              · intro i o f gh a W hi hf hdep hsame hcl hval hS
                rcases i with _ | _ | _ | _ | _ | _ | _ | _ | _ | _ | _ | _ | _ | _ | _ | i
                all_goals simp only [List.getElem?_cons_succ, List.getElem?_cons_zero, List.getElem?_nil, Option.some.injEq, reduceCtorEq] at hi
                all_goals subst hi
                · have E5 : a.tmps[5]? = some (.pointer (some ⟨oa, 0, none⟩)) := (same_of hsame 5 (by rfl)).trans rfl
                  refine g_plain rfl ?_
                  exact does_load _ _ rfl oa (by rw [eval_getD, E5]; rfl) _ (HKA.out.keep hS) _ Tryd.underlying32 rfl HZA.out ⟨(), .inr rfl, hS⟩
                · have E8 : a.tmps[8]? = some (.pointer (some ⟨ob, 0, none⟩)) := (same_of hsame 8 (by rfl)).trans rfl
                  refine g_plain rfl ?_
                  exact does_load _ _ rfl ob (by rw [eval_getD, E8]; rfl) _ (HKB.out.keep hS) _ Tryd.underlying32 rfl HZB.out ⟨(), .inr rfl, hS⟩
                · have E41 := hval 0 _ 41 rfl rfl (dep_of hdep 0 (by rfl))
                  have E42 := hval 1 _ 42 rfl rfl (dep_of hdep 1 (by rfl))
                  unfold c12YesVal at E41 E42
                  have heq := HEQ.out W
                  refine g_plain rfl ?_
                  exact does_value (w' := W) (v := .bool true) (by go_simp) ⟨(), .inr rfl, hS⟩
                · have E43 := hval 2 _ 43 rfl rfl (dep_of hdep 2 (by rfl))
                  unfold c12YesVal at E43
                  refine g_plain rfl ?_
                  exact does_value (w' := W) (v := .bool true) (by go_simp) ⟨(), .inr rfl, hS⟩
                · have EG := hval 3 _ 44 rfl rfl (dep_of hdep 3 (by rfl))
                  have E0 : a.tmps[0]? = some (.slice (some ⟨bl, off, none⟩) n c) := (same_of hsame 0 (by rfl)).trans rfl
                  unfold c12YesVal at EG
                  refine g_want rfl rfl rfl EG ?_
                  exact does_value (w' := W) (v := .slice (some ⟨bl, off, none⟩) n c) (by go_simp) ⟨(), .inr rfl, hS⟩
                · have EG := hval 3 _ 44 rfl rfl (dep_of hdep 3 (by rfl))
                  have E4 : a.tmps[4]? = some (.int .i64 (i : Int)) := (same_of hsame 4 (by rfl)).trans rfl
                  unfold c12YesVal at EG
                  refine g_want rfl rfl rfl EG ?_
                  exact does_value (w' := W) (v := .int .i64 (i : Int)) (by go_simp) ⟨(), .inr rfl, hS⟩
                · have EG := hval 3 _ 44 rfl rfl (dep_of hdep 3 (by rfl))
                  have E45 := hval 4 _ 45 rfl rfl (dep_of hdep 4 (by rfl))
                  have E46 := hval 5 _ 46 rfl rfl (dep_of hdep 5 (by rfl))
                  unfold c12YesVal at EG E45 E46
                  have hlt1 := HLTi.out.1; have hlt2 := HLTi.out.2
                  refine g_want rfl rfl rfl EG ?_
                  exact does_value (w' := W) (v := .pointer (some ⟨bl, off + i, none⟩)) (by go_simp) ⟨(), .inr rfl, hS⟩
                · have EG := hval 3 _ 44 rfl rfl (dep_of hdep 3 (by rfl))
                  have E47 := hval 6 _ 47 rfl rfl (dep_of hdep 6 (by rfl))
                  unfold c12YesVal at EG E47
                  have hce := cell_keep HCI.out hS
                  refine g_want rfl rfl rfl EG ?_
                  exact does_value (w' := W) (v := .slice Ai xi.length ci) (by go_simp) ⟨(), .inr rfl, hS⟩
                · have EG := hval 3 _ 44 rfl rfl (dep_of hdep 3 (by rfl))
                  have E0 : a.tmps[0]? = some (.slice (some ⟨bl, off, none⟩) n c) := (same_of hsame 0 (by rfl)).trans rfl
                  unfold c12YesVal at EG
                  refine g_want rfl rfl rfl EG ?_
                  exact does_value (w' := W) (v := .slice (some ⟨bl, off, none⟩) n c) (by go_simp) ⟨(), .inr rfl, hS⟩
                · have EG := hval 3 _ 44 rfl rfl (dep_of hdep 3 (by rfl))
                  have E7 : a.tmps[7]? = some (.int .i64 (k : Int)) := (same_of hsame 7 (by rfl)).trans rfl
                  unfold c12YesVal at EG
                  refine g_want rfl rfl rfl EG ?_
                  exact does_value (w' := W) (v := .int .i64 (k : Int)) (by go_simp) ⟨(), .inr rfl, hS⟩
                · have EG := hval 3 _ 44 rfl rfl (dep_of hdep 3 (by rfl))
                  have E49 := hval 8 _ 49 rfl rfl (dep_of hdep 8 (by rfl))
                  have E50 := hval 9 _ 50 rfl rfl (dep_of hdep 9 (by rfl))
                  unfold c12YesVal at EG E49 E50
                  have hlt1 := HLTk.out.1; have hlt2 := HLTk.out.2
                  refine g_want rfl rfl rfl EG ?_
                  exact does_value (w' := W) (v := .pointer (some ⟨bl, off + k, none⟩)) (by go_simp) ⟨(), .inr rfl, hS⟩
                · have EG := hval 3 _ 44 rfl rfl (dep_of hdep 3 (by rfl))
                  have E51 := hval 10 _ 51 rfl rfl (dep_of hdep 10 (by rfl))
                  unfold c12YesVal at EG E51
                  have hce := cell_keep HCK.out hS
                  refine g_want rfl rfl rfl EG ?_
                  exact does_value (w' := W) (v := .slice Ak xk.length ck) (by go_simp) ⟨(), .inr rfl, hS⟩
                · have EG := hval 3 _ 44 rfl rfl (dep_of hdep 3 (by rfl))
                  have E48 := hval 7 _ 48 rfl rfl (dep_of hdep 7 (by rfl))
                  have E52 := hval 11 _ 52 rfl rfl (dep_of hdep 11 (by rfl))
                  unfold c12YesVal at EG E48 E52
                  refine g_want rfl rfl rfl EG ?_
                  refine does_call 37 #[.slice Ai xi.length ci, .slice Ak xk.length ck] (by go_simp) ((HSB.out W hS).mono ?_)
                  rintro _ _ ⟨rfl, rfl⟩
                  exact ⟨_, rfl, (), .inr rfl, hS⟩
                · have EG := hval 3 _ 44 rfl rfl (dep_of hdep 3 (by rfl))
                  have E53 := hval 12 _ 53 rfl rfl (dep_of hdep 12 (by rfl))
                  unfold c12YesVal at EG E53
                  refine g_want rfl rfl rfl EG ?_
                  exact does_value (w' := W) (v := .bool (!sb)) (by go_simp) ⟨(), .inr rfl, hS⟩
                · have E44 := hval 3 _ 44 rfl rfl (dep_of hdep 3 (by rfl))
                  have E54 := hval 13 _ 54 rfl rfl (dep_of hdep 13 (by rfl))
                  unfold c12YesVal at E44 E54
                  refine g_plain rfl ?_
                  exact does_value (w' := W) (v := .bool (!sb)) (by go_simp) ⟨(), .inr rfl, hS⟩
              · intro gh W hS
                have HB9 := hid (HB8.out.trans (hS.mono HB8.out.size)); have HKA9 := hid (HKA.out.keep hS)
                simp only [putAll, c12YesVal, Nat.reduceAdd, Nat.zero_add, Act.put, List.setIfInBounds_toArray, List.set_cons_zero, List.set_cons_succ]
                clear hS HSB HEQ HCI HCK HKB HB8 HKA8 HKA
                cases sb with
                | true =>
                  go_wp2_with fail
                  go_roundw
                  case rel => exact ⟨k + 1, by go_num, by omega, HB9, HKA9⟩
                  case measure => simp [intOf]; omega
                | false =>
                  have hne : xk ≠ xi := fun e => by rw [e, beq_self_eq_true] at hsb; cases hsb
                  go_wp2_with fail
                  obtain ⟨w9, hw9⟩ : ∃ w9, w9 = W := ⟨W, rfl⟩
                  subst hw9
                  have HKA := HKA9
                  have HCI := hid ((HB9.out.cell (p := ⟨bl, off + i, none⟩) hbl).trans HCI0.out)
                  have HCK := hid ((HB9.out.cell (p := ⟨bl, off + k, none⟩) hbl).trans HCK0.out)
                  have HAP := hid (fun W (hb : Below w9.heap.size w9 W) => apart_calls da xk xi (hdb.trans HDE.out.symm) hda hne hxl2 hxl Ak Ai ck ci W ((HSK.out.keepB (HB9.out.trans (hb.mono HB9.out.size))).more (Nat.le_trans HB9.out.size hb.size)) ((HSI.out.keepB (HB9.out.trans (hb.mono HB9.out.size))).more (Nat.le_trans HB9.out.size hb.size)) hcck hcci (HG.out.keep (HB9.out.trans (hb.mono HB9.out.size))))
                  refine wp_region_invG 70 () (c13Val bl off n c i k da xi xk Ai Ak ci ck) (fun _ _ W => Below w9.heap.size w9 W) (by kernel_rfl) (by kernel_rfl) (by exact Nat.le_refl 70) ?_ ?_ ?_
                  · exact (Below.refl _ _).drew
                  · intro i o f gh a W hi hf hdep hsame hcl hval hS
                    rcases i with _ | _ | _ | _ | _ | _ | _ | _ | _ | _ | _ | _ | _ | _ | i
                    all_goals simp only [List.getElem?_cons_succ, List.getElem?_cons_zero, List.getElem?_nil, Option.some.injEq, reduceCtorEq] at hi
                    all_goals subst hi
                    · have E3 : a.tmps[3]? = some (.bool true) := (same_of hsame 3 (by rfl)).trans rfl
                      refine g_plain rfl ?_
                      exact does_value (w' := W) (v := .bool true) (by go_simp) ⟨(), .inr rfl, hS⟩
                    · have E56 := hval 0 _ 56 rfl rfl (dep_of hdep 0 (by rfl))
                      unfold c13Val at E56
                      refine g_plain rfl ?_
                      exact does_value (w' := W) (v := .bool true) (by go_simp) ⟨(), .inr rfl, hS⟩
                    · have EG := hval 1 _ 57 rfl rfl (dep_of hdep 1 (by rfl))
                      have E5 : a.tmps[5]? = some (.pointer (some ⟨oa, 0, none⟩)) := (same_of hsame 5 (by rfl)).trans rfl
                      unfold c13Val at EG
                      refine g_want rfl rfl rfl EG ?_
                      exact does_load _ _ rfl oa (by rw [eval_getD, E5]; rfl) _ (HKA.out.keep hS) _ Tryd.underlying32 rfl HZA.out ⟨(), .inr rfl, hS⟩
                    · have EG := hval 1 _ 57 rfl rfl (dep_of hdep 1 (by rfl))
                      have E0 : a.tmps[0]? = some (.slice (some ⟨bl, off, none⟩) n c) := (same_of hsame 0 (by rfl)).trans rfl
                      unfold c13Val at EG
                      refine g_want rfl rfl rfl EG ?_
                      exact does_value (w' := W) (v := .slice (some ⟨bl, off, none⟩) n c) (by go_simp) ⟨(), .inr rfl, hS⟩
                    · have EG := hval 1 _ 57 rfl rfl (dep_of hdep 1 (by rfl))
                      have E7 : a.tmps[7]? = some (.int .i64 (k : Int)) := (same_of hsame 7 (by rfl)).trans rfl
                      unfold c13Val at EG
                      refine g_want rfl rfl rfl EG ?_
                      exact does_value (w' := W) (v := .int .i64 (k : Int)) (by go_simp) ⟨(), .inr rfl, hS⟩
                    · have EG := hval 1 _ 57 rfl rfl (dep_of hdep 1 (by rfl))
                      have E59 := hval 3 _ 59 rfl rfl (dep_of hdep 3 (by rfl))
                      have E60 := hval 4 _ 60 rfl rfl (dep_of hdep 4 (by rfl))
                      unfold c13Val at EG E59 E60
                      have hlt1 := HLTk.out.1; have hlt2 := HLTk.out.2
                      refine g_want rfl rfl rfl EG ?_
                      exact does_value (w' := W) (v := .pointer (some ⟨bl, off + k, none⟩)) (by go_simp) ⟨(), .inr rfl, hS⟩
                    · have EG := hval 1 _ 57 rfl rfl (dep_of hdep 1 (by rfl))
                      have E61 := hval 5 _ 61 rfl rfl (dep_of hdep 5 (by rfl))
                      unfold c13Val at EG E61
                      have hce := cell_keep HCK.out hS
                      refine g_want rfl rfl rfl EG ?_
                      exact does_value (w' := W) (v := .slice Ak xk.length ck) (by go_simp) ⟨(), .inr rfl, hS⟩
                    · have EG := hval 1 _ 57 rfl rfl (dep_of hdep 1 (by rfl))
                      have E0 : a.tmps[0]? = some (.slice (some ⟨bl, off, none⟩) n c) := (same_of hsame 0 (by rfl)).trans rfl
                      unfold c13Val at EG
                      refine g_want rfl rfl rfl EG ?_
                      exact does_value (w' := W) (v := .slice (some ⟨bl, off, none⟩) n c) (by go_simp) ⟨(), .inr rfl, hS⟩
                    · have EG := hval 1 _ 57 rfl rfl (dep_of hdep 1 (by rfl))
                      have E4 : a.tmps[4]? = some (.int .i64 (i : Int)) := (same_of hsame 4 (by rfl)).trans rfl
                      unfold c13Val at EG
                      refine g_want rfl rfl rfl EG ?_
                      exact does_value (w' := W) (v := .int .i64 (i : Int)) (by go_simp) ⟨(), .inr rfl, hS⟩
                    · have EG := hval 1 _ 57 rfl rfl (dep_of hdep 1 (by rfl))
                      have E63 := hval 7 _ 63 rfl rfl (dep_of hdep 7 (by rfl))
                      have E64 := hval 8 _ 64 rfl rfl (dep_of hdep 8 (by rfl))
                      unfold c13Val at EG E63 E64
                      have hlt1 := HLTi.out.1; have hlt2 := HLTi.out.2
                      refine g_want rfl rfl rfl EG ?_
                      exact does_value (w' := W) (v := .pointer (some ⟨bl, off + i, none⟩)) (by go_simp) ⟨(), .inr rfl, hS⟩
                    · have EG := hval 1 _ 57 rfl rfl (dep_of hdep 1 (by rfl))
                      have E65 := hval 9 _ 65 rfl rfl (dep_of hdep 9 (by rfl))
                      unfold c13Val at EG E65
                      have hce := cell_keep HCI.out hS
                      refine g_want rfl rfl rfl EG ?_
                      exact does_value (w' := W) (v := .slice Ai xi.length ci) (by go_simp) ⟨(), .inr rfl, hS⟩
                    · have EG := hval 1 _ 57 rfl rfl (dep_of hdep 1 (by rfl))
                      have E58 := hval 2 _ 58 rfl rfl (dep_of hdep 2 (by rfl))
                      have E62 := hval 6 _ 62 rfl rfl (dep_of hdep 6 (by rfl))
                      have E66 := hval 10 _ 66 rfl rfl (dep_of hdep 10 (by rfl))
                      unfold c13Val at EG E58 E62 E66
                      refine g_want rfl rfl rfl EG ?_
                      refine does_call 38 #[.agg (bcells da), .slice Ak xk.length ck, .slice Ai xi.length ci] (by go_simp) ((HAP.out W hS).mono ?_)
                      rintro _ W' ⟨rfl, hb⟩
                      exact ⟨_, rfl, (), .inr rfl, hS.trans (hb.mono hS.size)⟩
                    · have E57 := hval 1 _ 57 rfl rfl (dep_of hdep 1 (by rfl))
                      have E67 := hval 11 _ 67 rfl rfl (dep_of hdep 11 (by rfl))
                      unfold c13Val at E57 E67
                      refine g_plain rfl ?_
                      exact does_value (w' := W) (v := .bool true) (by go_simp) ⟨(), .inr rfl, hS⟩
                    · have E68 := hval 12 _ 68 rfl rfl (dep_of hdep 12 (by rfl))
                      unfold c13Val at E68
                      refine g_plain rfl ?_
                      exact does_value (w' := W) (v := .bool true) (by go_simp) ⟨(), .inr rfl, hS⟩
                  · intro gh W hS
                    have HBE := hid (HB9.out.trans (hS.mono HB9.out.size))
                    simp only [putAll, c13Val, Nat.reduceAdd, Nat.zero_add, Act.put, List.setIfInBounds_toArray, List.set_cons_zero, List.set_cons_succ]
                    clear hS HAP HKA HCI HCK HB9 HKA9
                    go_wp2_with fail
                    go_ret
                    exact ⟨rfl, HBE.out⟩
            · rw [show (da == db) = false from by simpa using hde] at HEQ
              clear hde
              refine wp_region_invG 70 () (c12NoVal da db) (fun _ _ W => Below w8.heap.size w8 W) (by kernel_rfl) (by kernel_rfl) (by exact Nat.le_refl 70) ?_ ?_ ?_
              · exact (Below.refl _ _).drew
              · intro i o f gh a W hi hf hdep hsame hcl hval hS
                rcases i with _ | _ | _ | _ | _ | _ | _ | _ | _ | _ | _ | _ | _ | _ | _ | i
                all_goals simp only [List.getElem?_cons_succ, List.getElem?_cons_zero, List.getElem?_nil, Option.some.injEq, reduceCtorEq] at hi
                all_goals subst hi
                · have E5 : a.tmps[5]? = some (.pointer (some ⟨oa, 0, none⟩)) := (same_of hsame 5 (by rfl)).trans rfl
                  refine g_plain rfl ?_
                  exact does_load _ _ rfl oa (by rw [eval_getD, E5]; rfl) _ (HKA.out.keep hS) _ Tryd.underlying32 rfl HZA.out ⟨(), .inr rfl, hS⟩
                · have E8 : a.tmps[8]? = some (.pointer (some ⟨ob, 0, none⟩)) := (same_of hsame 8 (by rfl)).trans rfl
                  refine g_plain rfl ?_
                  exact does_load _ _ rfl ob (by rw [eval_getD, E8]; rfl) _ (HKB.out.keep hS) _ Tryd.underlying32 rfl HZB.out ⟨(), .inr rfl, hS⟩
                · have E41 := hval 0 _ 41 rfl rfl (dep_of hdep 0 (by rfl))
                  have E42 := hval 1 _ 42 rfl rfl (dep_of hdep 1 (by rfl))
                  unfold c12NoVal at E41 E42
                  have heq := HEQ.out W
                  refine g_plain rfl ?_
                  exact does_value (w' := W) (v := .bool false) (by go_simp) ⟨(), .inr rfl, hS⟩
                · have E43 := hval 2 _ 43 rfl rfl (dep_of hdep 2 (by rfl))
                  unfold c12NoVal at E43
                  refine g_plain rfl ?_
                  exact does_value (w' := W) (v := .bool false) (by go_simp) ⟨(), .inr rfl, hS⟩
                · have EG := hval 3 _ 44 rfl rfl (dep_of hdep 3 (by rfl))
                  unfold c12NoVal at EG
                  exact g_skip rfl rfl rfl EG rfl ⟨(), .inr rfl, hS⟩
                · have EG := hval 3 _ 44 rfl rfl (dep_of hdep 3 (by rfl))
                  unfold c12NoVal at EG
                  exact g_skip rfl rfl rfl EG rfl ⟨(), .inr rfl, hS⟩
                · have EG := hval 3 _ 44 rfl rfl (dep_of hdep 3 (by rfl))
                  unfold c12NoVal at EG
                  exact g_skip rfl rfl rfl EG rfl ⟨(), .inr rfl, hS⟩
                · have EG := hval 3 _ 44 rfl rfl (dep_of hdep 3 (by rfl))
                  unfold c12NoVal at EG
                  exact g_skip rfl rfl rfl EG rfl ⟨(), .inr rfl, hS⟩
                · have EG := hval 3 _ 44 rfl rfl (dep_of hdep 3 (by rfl))
                  unfold c12NoVal at EG
                  exact g_skip rfl rfl rfl EG rfl ⟨(), .inr rfl, hS⟩
                · have EG := hval 3 _ 44 rfl rfl (dep_of hdep 3 (by rfl))
                  unfold c12NoVal at EG
                  exact g_skip rfl rfl rfl EG rfl ⟨(), .inr rfl, hS⟩
                · have EG := hval 3 _ 44 rfl rfl (dep_of hdep 3 (by rfl))
                  unfold c12NoVal at EG
                  exact g_skip rfl rfl rfl EG rfl ⟨(), .inr rfl, hS⟩
                · have EG := hval 3 _ 44 rfl rfl (dep_of hdep 3 (by rfl))
                  unfold c12NoVal at EG
                  exact g_skip rfl rfl rfl EG rfl ⟨(), .inr rfl, hS⟩
                · have EG := hval 3 _ 44 rfl rfl (dep_of hdep 3 (by rfl))
                  unfold c12NoVal at EG
                  exact g_skip rfl rfl rfl EG rfl ⟨(), .inr rfl, hS⟩
                · have EG := hval 3 _ 44 rfl rfl (dep_of hdep 3 (by rfl))
                  unfold c12NoVal at EG
                  exact g_skip rfl rfl rfl EG rfl ⟨(), .inr rfl, hS⟩
                · have E44 := hval 3 _ 44 rfl rfl (dep_of hdep 3 (by rfl))
                  unfold c12NoVal at E44
                  refine g_plain rfl ?_
                  exact does_value (w' := W) (v := .bool false) (by go_simp) ⟨(), .inr rfl, hS⟩
              · intro gh W hS
                have HB9 := hid (HB8.out.trans (hS.mono HB8.out.size)); have HKA9 := hid (HKA.out.keep hS)
                simp only [putAll, c12NoVal, Nat.reduceAdd, Nat.zero_add, Act.put, List.setIfInBounds_toArray, List.set_cons_zero, List.set_cons_succ]
                clear hS HEQ HCI HCK HKB HB8 HKA8 HKA
                go_wp2_with fail
                go_roundw
                case rel => exact ⟨k + 1, by go_num, by omega, HB9, HKA9⟩
                case measure => simp [intOf]; omega
          · obtain rfl : k = i := by omega
            go_wp2_with fail
            go_roundw
            case rel => exact ⟨k + 1, by go_num, by omega, HB⟩
            case measure => simp [intOf]; omega
      · obtain rfl : i = n := by omega
        go_wp2_with fail
        go_ret
        exact ⟨rfl, HB.out⟩
end Go.Proofs.YtoogaapjdlhpbaaDoor
