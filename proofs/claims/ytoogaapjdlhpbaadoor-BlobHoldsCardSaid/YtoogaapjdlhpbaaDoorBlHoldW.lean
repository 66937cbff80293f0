/- The law BlobHolds, walked. Written by tools/mkholdw.py. -/
import Derived.Test.YtoogaapjdlhpbaaDoorBlHoldS
import Derived.Deep.OwnRows
namespace Go.Proofs.YtoogaapjdlhpbaaDoor
open Go.RowKit Crc

def hw14 (s : Nat) (bl : Nat) (off : Nat) (n : Nat) (c : Nat) (i : Nat) (cx : Nat) (pE : Nat) (pI : Bool) (Ax : Option Addr) (x : List UInt8) (d : List UInt8) : Nat → Unit → Value
  | 0, _ => .pointer (some ⟨s, 0, none⟩)
  | 1, _ => .agg (bcells d)
  | 2, _ => .slice (some ⟨bl, off, none⟩) n c
  | 3, _ => .int .i64 (i : Int)
  | 4, _ => .pointer (some ⟨bl, off + i, none⟩)
  | 5, _ => .slice Ax x.length cx
  | 6, _ => .tuple #[.bool pI, .int .i64 (pE : Int)]
  | 7, _ => .tuple #[.bool pI, .int .i64 (pE : Int)]
  | 8, _ => .bool pI
  | 9, _ => .int .i64 (pE : Int)
  | 10, _ => .bool pI
  | 11, _ => .int .i64 (pE : Int)
  | _, _ => undef
def hw16A (s : Nat) (bl : Nat) (off : Nat) (n : Nat) (c : Nat) (i : Nat) (cx : Nat) (was : Nat) (us : Nat) (Ax : Option Addr) (x : List UInt8) : Nat → Unit → Value
  | 0, _ => .bool true
  | 1, _ => .bool true
  | 2, _ => .int .i64 (0 : Int)
  | 3, _ => .bool false
  | 4, _ => .bool false
  | 5, _ => .pointer (some ⟨s, 0, none⟩)
  | 6, _ => .int .i64 (us : Int)
  | 7, _ => .int .i64 (was : Int)
  | 8, _ => .slice (some ⟨bl, off, none⟩) n c
  | 9, _ => .int .i64 (i : Int)
  | 10, _ => .pointer (some ⟨bl, off + i, none⟩)
  | 11, _ => .slice Ax x.length cx
  | 12, _ => .int .i64 (x.length : Int)
  | 13, _ => .int .i64 (us : Int)
  | 14, _ => .bool false
  | 15, _ => .bool false
  | 16, _ => .bool false
  | 17, _ => .bool false
  | 18, _ => .bool true
  | 19, _ => .bool false
  | 20, _ => .bool false
  | 21, _ => undef
  | 22, _ => undef
  | 23, _ => undef
  | 24, _ => undef
  | 25, _ => .bool false
  | 26, _ => .bool false
  | 27, _ => .bool false
  | 28, _ => .int .i64 (0 : Int)
  | 29, _ => .bool false
  | 30, _ => .bool false
  | 31, _ => undef
  | 32, _ => undef
  | 33, _ => .bool false
  | 34, _ => .bool false
  | 35, _ => undef
  | 36, _ => undef
  | 37, _ => .bool false
  | 38, _ => .bool false
  | _, _ => undef
def hw16B (s : Nat) (us : Nat) : Nat → Unit → Value
  | 0, _ => .bool false
  | 1, _ => .bool false
  | 2, _ => undef
  | 3, _ => undef
  | 4, _ => undef
  | 5, _ => undef
  | 6, _ => undef
  | 7, _ => undef
  | 8, _ => undef
  | 9, _ => undef
  | 10, _ => undef
  | 11, _ => undef
  | 12, _ => undef
  | 13, _ => undef
  | 14, _ => undef
  | 15, _ => undef
  | 16, _ => .bool false
  | 17, _ => .bool false
  | 18, _ => .bool false
  | 19, _ => .bool true
  | 20, _ => .bool true
  | 21, _ => .pointer (some ⟨s, 0, none⟩)
  | 22, _ => .int .i64 (us : Int)
  | 23, _ => .int .i64 (us : Int)
  | 24, _ => .bool false
  | 25, _ => .bool false
  | 26, _ => .bool false
  | 27, _ => .bool false
  | 28, _ => .int .i64 (0 : Int)
  | 29, _ => .bool false
  | 30, _ => .bool false
  | 31, _ => undef
  | 32, _ => undef
  | 33, _ => .bool false
  | 34, _ => .bool false
  | 35, _ => undef
  | 36, _ => undef
  | 37, _ => .bool false
  | 38, _ => .bool false
  | _, _ => undef
def hw16C (s : Nat) (us : Nat) : Nat → Unit → Value
  | 0, _ => .bool false
  | 1, _ => .bool false
  | 2, _ => undef
  | 3, _ => undef
  | 4, _ => undef
  | 5, _ => undef
  | 6, _ => undef
  | 7, _ => undef
  | 8, _ => undef
  | 9, _ => undef
  | 10, _ => undef
  | 11, _ => undef
  | 12, _ => undef
  | 13, _ => undef
  | 14, _ => undef
  | 15, _ => undef
  | 16, _ => .bool false
  | 17, _ => .bool false
  | 18, _ => .bool false
  | 19, _ => .bool true
  | 20, _ => .bool true
  | 21, _ => .pointer (some ⟨s, 0, none⟩)
  | 22, _ => .int .i64 (us : Int)
  | 23, _ => .int .i64 (us : Int)
  | 24, _ => .bool false
  | 25, _ => .bool false
  | 26, _ => .bool false
  | 27, _ => .bool false
  | 28, _ => .int .i64 (9 : Int)
  | 29, _ => .bool true
  | 30, _ => .bool true
  | 31, _ => .int .i64 (9 : Int)
  | 32, _ => .bool true
  | 33, _ => .bool true
  | 34, _ => .bool true
  | 35, _ => .int .i64 (9 : Int)
  | 36, _ => .bool false
  | 37, _ => .bool false
  | 38, _ => .bool false
  | _, _ => undef
def hw16D (s : Nat) (us : Nat) : Nat → Unit → Value
  | 0, _ => .bool false
  | 1, _ => .bool false
  | 2, _ => undef
  | 3, _ => undef
  | 4, _ => undef
  | 5, _ => undef
  | 6, _ => undef
  | 7, _ => undef
  | 8, _ => undef
  | 9, _ => undef
  | 10, _ => undef
  | 11, _ => undef
  | 12, _ => undef
  | 13, _ => undef
  | 14, _ => undef
  | 15, _ => undef
  | 16, _ => .bool false
  | 17, _ => .bool false
  | 18, _ => .bool false
  | 19, _ => .bool true
  | 20, _ => .bool true
  | 21, _ => .pointer (some ⟨s, 0, none⟩)
  | 22, _ => .int .i64 (us : Int)
  | 23, _ => .int .i64 (us : Int)
  | 24, _ => .bool false
  | 25, _ => .bool false
  | 26, _ => .bool false
  | 27, _ => .bool false
  | 28, _ => .int .i64 (10 : Int)
  | 29, _ => .bool true
  | 30, _ => .bool true
  | 31, _ => .int .i64 (10 : Int)
  | 32, _ => .bool false
  | 33, _ => .bool false
  | 34, _ => .bool false
  | 35, _ => undef
  | 36, _ => undef
  | 37, _ => .bool false
  | 38, _ => .bool false
  | _, _ => undef
theorem LawB.chg1 {w0 w w' : World} {F : List Nat} {s m k : Nat} {b : BS} {f : List UInt8 → Option Nat} (h : LawB w0 w F s m k b f) {o : Nat} (hc : Chg [o] w w') (ho : o ∉ F) (hw : w0.heap.size ≤ o) : LawB w0 w' F s m k b f :=
  ⟨h.st.chg hc (fun x hx hm => ho (by rw [← List.mem_singleton.1 hm]; exact hx)), h.below.trans (hc.below (fun b hb => by rw [List.mem_singleton.1 hb]; exact hw) h.below.size), h.new⟩
theorem kept_set {w : World} {kb i : Nat} {K : List Bool} (h : KeptB w kb K) (v : Bool) : KeptB (w.setCell ⟨kb, i, none⟩ (.bool v)) kb (K.set i v) := by
  have h := Blk.set_ h i (.bool v)
  unfold KeptB
  rw [show ((K.set i v).map Value.bool).toArray = (K.map Value.bool).toArray.setIfInBounds i (.bool v) from by simp]
  exact h
theorem slb_more {w : World} {B B' : Nat} {A : Option Addr} {l : List (List UInt8)} (h : SLB w B A l) (hB : B ≤ B') : SLB w B' A l := by
  obtain ⟨vs, h1, h2, h3⟩ := h
  refine ⟨vs, h1, fun hl => ?_, fun k x u hx hu => ?_⟩
  · obtain ⟨b, off, e, hlt, hc⟩ := h2 hl
    exact ⟨b, off, e, by omega, hc⟩
  · obtain ⟨A', c, e, hs, hc⟩ := h3 k x u hx hu
    exact ⟨A', c, e, hs.more hB, hc⟩
def PutX (w0 w : World) (s m k : Nat) (b : BS) (kb : Nat) (K : List Bool) : Prop := ∃ F' k' f', LawB w0 w F' s m k' b f' ∧ k' ≤ k ∧ KeptB w kb K ∧ kb ∉ F'
theorem rep_no {n q : Nat} : (List.replicate n false)[q]? ≠ some true := fun hk => by
  rw [List.getElem?_replicate] at hk
  split at hk
  · simp at hk
  · cases hk
theorem hold_start (wd rn : Nat) (l : List (List UInt8)) (n : Nat) (h : l.length = n) : HoldM ⟨wd, rn, []⟩ wd l (List.replicate n false) 0 where
  bw := rfl
  dig := fun p hp => by cases hp
  kn := by rw [List.length_replicate]; exact h.symm
  kept := fun q x _ hk => absurd hk rep_no
  late := fun q _ => rep_no
theorem infoB1 : (Tryd.prog.info? 4).map (fun i => (i.zero, i.size, i.bytes)) = some (some (.bool false), 1, 1) := by kernel_rfl
/-- where the law is, at the head of its loop -/
def HoldL (w0 wr : World) (wd _rm kb : Nat) (l : List (List UInt8)) (i : Nat) (s m : Nat) : Prop := ∃ F k b f K, LawB w0 wr F s m k b f ∧ HoldM b wd l K i ∧ k ≤ i ∧ KeptB wr kb K ∧ kb ∉ F ∧ w0.heap.size ≤ kb
set_option maxRecDepth 100000 in
set_option maxHeartbeats 8000000 in
theorem blobHolds_calls (wid rm : Int) (A : Option Addr) (c : Nat) (l : List (List UInt8)) (w : World) (hL : SLB w w.heap.size A l) (hn : l.length ≤ 9223372036854775807) (A2 : Option Addr) (n2 c2 : Nat) (zs : List Int) (hz : SI w A2 n2 zs) (hG : Glob w) :
    Calls Tryd.prog 6 #[.int .i64 wid, .int .i64 rm, .slice A l.length c, .slice A2 n2 c2] w fun e w' => e = .returned (.bool true) ∧ Below w.heap.size w w' := by
  have HG := hid hG; have HL := hid hL; have HZs := hid hz
  have HZ := hid ((zero_of_info info26).1)
  clear hL hG hz
  go_enter Tryd.func6, Tryd.ntmps6
  go_wp2_with fail
  refine (known_calls w HG.out).mono ?_
  rintro _ w1 ⟨rfl, b1⟩
  have HB1 := hid b1
  clear b1
  go_wp2_with fail
  refine (longLists_calls A c l 30 40 w.heap.size w1 (HL.out.keepB HB1.out) hn (by omega) (by omega)).mono ?_
  rintro _ _ ⟨rfl, rfl⟩
  cases hlong : longB l 30 40 with
  | true =>
    go_wp2_with fail
    go_ret
    exact ⟨rfl, HB1.out⟩
  | false =>
    obtain ⟨hn3, hl40⟩ := longB_ok hlong
    have H40 := hid hl40
    clear hlong hl40
    obtain ⟨n, hnl⟩ : ∃ n, l.length = n := ⟨_, rfl⟩
    have HNL := hid hnl
    rw [hnl] at hn3 ⊢
    clear hnl hn
    by_cases hdr : 30 < n2
    · have hdr' : (30 : Int) < (n2 : Int) := by omega
      go_wp2_with fail
      go_ret
      exact ⟨rfl, HB1.out⟩
    · have hdr' : ¬ (30 : Int) < (n2 : Int) := by omega
      go_wp2_with fail
      refine (pick_calls wid 32 w1 (by omega) (by omega)).mono ?_
      rintro _ _ ⟨rfl, rfl⟩
      obtain ⟨wd, hwd⟩ : ∃ wd : Nat, (wd : Int) = 1 + wid % 32 := ⟨(1 + wid % 32).toNat, by have := Int.emod_nonneg wid (show (32 : Int) ≠ 0 by omega); omega⟩
      obtain ⟨rn, hrn⟩ : ∃ rn : Nat, (rn : Int) = rm % 501 := ⟨(rm % 501).toNat, by have := Int.emod_nonneg rm (show (501 : Int) ≠ 0 by omega); omega⟩
      have w1' : 1 ≤ wd := by have := Int.emod_nonneg wid (show (32 : Int) ≠ 0 by omega); omega
      have w2' : wd ≤ 32 := by have := Int.emod_lt_of_pos wid (show (0 : Int) < 32 by omega); omega
      have r1' : rn ≤ 500 := by have := Int.emod_lt_of_pos rm (show (0 : Int) < 501 by omega); omega
      have e1 : IntKind.i64.wrap (1 + wid % 32) = (wd : Int) := by rw [← hwd, IntWalk.i64_in _ (by omega)]
      have HP2 := hid (pick_calls rm 501 w1 (by omega) (by omega))
      rw [← hrn] at HP2
      have HN := hid (new_calls wd rn w1 w1' w2' (by omega))
      clear hwd hrn
      go_wp2_with fail
      refine HP2.out.mono ?_
      rintro _ _ ⟨rfl, rfl⟩
      clear e1 HP2
      go_wp2_with fail
      refine HN.out.mono ?_
      rintro _ w2 ⟨s, m, F, rfl, p1, p2, p3⟩
      have HS := hid (show LawB w w2 F s m 0 ⟨wd, rn, []⟩ _ from ⟨p1, HB1.out.trans (p2.mono HB1.out.size), fun x hx => Nat.le_trans HB1.out.size (p3 x hx)⟩)
      have hmk := run_make_row' (P := Tryd.prog) 67 4 (.bool false) 1 Tryd.underlying67 infoB1 rfl .i64 .i64 n (by omega) (by omega)
      have HKb := hid (show KeptB (w2.alloc (.cells (madeCells #[Value.bool false] n) 4)) w2.heap.size (List.replicate n false) from by
        have h := Blk.new w2 4 (madeCells #[Value.bool false] n)
        have e : madeCells #[Value.bool false] n = ((List.replicate n false).map Value.bool).toArray := by
          have := toList_madeCells_one (.bool false) n
          rw [List.map_replicate, ← this]
        unfold KeptB
        rw [← e]
        exact h)
      have HS3 := hid (HS.out.keep (below_new w2 (.cells (madeCells #[Value.bool false] n) 4)))
      have HM := hid (hold_start wd rn l n HNL.out)
      have HLo := hid (show HoldL w (w2.alloc (.cells (madeCells #[Value.bool false] n) 4)) wd rn w2.heap.size l 0 s m from ⟨F, 0, _, _, _, HS3.out, HM.out, Nat.le_refl _, HKb.out, fun h => by have := HS.out.st.lt _ h; omega, HS.out.below.size⟩)
      clear p1 p2 p3 HN HKb HS3 HM HS HB1
      go_wp2_with fail
      generalize w2.alloc (.cells (madeCells #[Value.bool false] n) 4) = w3 at HLo ⊢
      generalize w2.heap.size = kb at HLo ⊢
      clear hmk
      go_loopw [13] (fun v13 wr => ∃ i : Nat, v13 = .int .i64 (i : Int) ∧ i ≤ n ∧ Hid (HoldL w wr wd rn kb l i s m)) (fun v13 _ => n - (intOf v13).toNat)
      case atStart => exact ⟨0, rfl, Nat.zero_le _, HLo⟩
      case round =>
        clear HLo
        obtain ⟨i, rfl, hi, HLo⟩ := hrel
        obtain ⟨F, k, b, f, K, hlaw, hm, hk, hkb, hkf, hkw⟩ := HLo.out
        have HW := hid hlaw; have HM := hid hm; have HKb := hid hkb; have HKf := hid hkf; have HKw := hid hkw
        clear HLo hlaw hm hkb hkf hkw
        by_cases hlt : i < n
        · have hlt' : (i : Int) < (n : Int) := by omega
          obtain ⟨bl, off, Ax, cx, x, hA, hbl, hxi, hcx, hsx, hcxx, -⟩ := HL.out.at_ (k := i) (by rw [HNL.out]; exact hlt)
          subst hA
          have hxl := H40.out x (List.mem_of_getElem? hxi)
          have HCX0 := hid hcx; have HSX0 := hid hsx; have HXI := hid hxi
          have hce := (HW.out.below.cell (p := ⟨bl, off + i, none⟩) hbl).trans hcx
          have HO := hid (own_of_calls w.heap.size x.length cx Ax x (wd : Int) _ (hsx.keepB HW.out.below) hcxx (HW.out.glob HG.out) (by omega))
          rw [show cutE (wd : Int) = 0 from by rw [cutE, if_neg (by omega)], show cutB (sha x) (wd : Int) = digB x wd from rfl] at HO
          have HDL := hid (digB_length x wd)
          obtain ⟨d, hd⟩ : ∃ d, digB x wd = d := ⟨_, rfl⟩
          rw [hd] at HO HDL
          have HD := hid hd
          have HSZ := hid (show (Tryd.prog.info? 32).map (·.size) = some (bcells d).size from by rw [bcells_size, HDL.out]; kernel_rfl)
          have HZ3 := hid (show (bcells (zeroB 32)).size = (bcells d).size from by rw [bcells_size, bcells_size, HDL.out]; rfl)
          clear hcx hsx hxi hd
          go_wp2_with fail
          refine HO.out.mono ?_
          rintro _ w4 ⟨rfl, b4⟩
          have HW4 := hid (HW.out.keep b4); have HKb4 := hid (HKb.out.keep b4)
          obtain ⟨q1, q2⟩ := new_set w4 32 (bcells (zeroB 32)) (bcells d)
          have K3 := hid (Blk.new w4 32 (bcells (zeroB 32)))
          have HKD := hid q2; have HW5 := hid (HW4.out.keep q1); have HKb5 := hid (HKb4.out.keep q1)
          have hz := HZ.out
          clear b4 q1 q2 HO hce HW HKb HW4 HKb4
          go_wp2_with (refine wpList_store_blk rfl 32 _ _ rfl w4.heap.size _ rfl rfl 32 _ K3.out HSZ.out HZ3.out (bcells_oneCell _) ?_)
          clear hz K3 HZ3
          generalize (w4.alloc (.cells (bcells (zeroB 32)) 32)).setRow w4.heap.size (bcells d) = w5 at HW5 HKD HKb5 ⊢
          generalize w4.heap.size = oa at HKD ⊢
          refine (used_calls HW5.out.st).mono ?_
          rintro _ _ ⟨rfl, rfl⟩
          obtain ⟨was, hwas⟩ : ∃ was, usedB b.l = was := ⟨_, rfl⟩
          rw [hwas]
          have HWas := hid hwas
          clear hwas
          go_wp2_with fail
          obtain ⟨pI, hpI⟩ : ∃ pI, putI b d x = pI := ⟨_, rfl⟩
          obtain ⟨pE, hpE⟩ : ∃ pE, putE b d x = pE := ⟨_, rfl⟩
          have HPut := hid (fun W (hb : Below w5.heap.size w5 W) => put_calls (HW5.out.st.keep hb) d HDL.out Ax cx x ((HSX0.out.keepB (HW5.out.below.trans (hb.mono HW5.out.below.size))).more (Nat.le_trans HW5.out.below.size hb.size)) hcxx (by omega) (HG.out.keep (HW5.out.below.trans (hb.mono HW5.out.below.size))) (by omega))
          rw [hpI, hpE] at HPut
          have HPI := hid hpI; have HPE := hid hpE
          have HLT := hid (⟨hlt', hlt⟩ : (i : Int) < (n : Int) ∧ i < n)
          have HCX := hid ((HW5.out.below.cell (p := ⟨bl, off + i, none⟩) hbl).trans HCX0.out)
          clear hpI hpE
          refine wp_region_invG 188 () (hw14 s bl off n c i cx pE pI Ax x d) (fun f _ W => (f 6 = false → Below w5.heap.size w5 W) ∧ (f 6 = true → PutX w W s m (k + 1) (putB b d x) kb K)) (by kernel_rfl) (by kernel_rfl) (by exact Nat.le_refl 188) ?_ ?_ ?_
          · exact ⟨fun _ => (Below.refl _ _).drew, fun e => absurd e (by decide)⟩
          · intro i o f gh a W hi hf hdep hsame hcl hval hS
            rcases i with _ | _ | _ | _ | _ | _ | _ | _ | _ | _ | _ | _ | i
            all_goals simp only [List.getElem?_cons_succ, List.getElem?_cons_zero, List.getElem?_nil, Option.some.injEq, reduceCtorEq] at hi
            all_goals subst hi
            · have E10 : a.tmps[10]? = some (.pointer (some ⟨s, 0, none⟩)) := (same_of hsame 10 (by rfl)).trans rfl
              refine g_plain rfl ?_
              exact does_value (w' := W) (v := .pointer (some ⟨s, 0, none⟩)) (by go_simp) ⟨(), .inr rfl, ⟨fun e => hS.1 (by rwa [upd_ne (by decide)] at e), fun e => hS.2 (by rwa [upd_ne (by decide)] at e)⟩⟩
            · have E14 : a.tmps[14]? = some (.pointer (some ⟨oa, 0, none⟩)) := (same_of hsame 14 (by rfl)).trans rfl
              have n6 := not_yet hcl hf 6 (by rfl)
              have hb := hS.1 n6
              refine g_plain rfl ?_
              exact does_load _ _ rfl oa (by rw [eval_getD, E14]; rfl) _ (HKD.out.keep hb) _ Tryd.underlying32 rfl HSZ.out ⟨(), .inr rfl, ⟨fun e => hS.1 (by rwa [upd_ne (by decide)] at e), fun e => hS.2 (by rwa [upd_ne (by decide)] at e)⟩⟩
            · have E2 : a.tmps[2]? = some (.slice (some ⟨bl, off, none⟩) n c) := (same_of hsame 2 (by rfl)).trans rfl
              refine g_plain rfl ?_
              exact does_value (w' := W) (v := .slice (some ⟨bl, off, none⟩) n c) (by go_simp) ⟨(), .inr rfl, ⟨fun e => hS.1 (by rwa [upd_ne (by decide)] at e), fun e => hS.2 (by rwa [upd_ne (by decide)] at e)⟩⟩
            · have E13 : a.tmps[13]? = some (.int .i64 (i : Int)) := (same_of hsame 13 (by rfl)).trans rfl
              refine g_plain rfl ?_
              exact does_value (w' := W) (v := .int .i64 (i : Int)) (by go_simp) ⟨(), .inr rfl, ⟨fun e => hS.1 (by rwa [upd_ne (by decide)] at e), fun e => hS.2 (by rwa [upd_ne (by decide)] at e)⟩⟩
            · have E74 := hval 2 _ 74 rfl rfl (dep_of hdep 2 (by rfl))
              have E75 := hval 3 _ 75 rfl rfl (dep_of hdep 3 (by rfl))
              unfold hw14 at E74 E75
              have hlt1 := HLT.out.1; have hlt2 := HLT.out.2
              refine g_plain rfl ?_
              exact does_value (w' := W) (v := .pointer (some ⟨bl, off + i, none⟩)) (by go_simp) ⟨(), .inr rfl, ⟨fun e => hS.1 (by rwa [upd_ne (by decide)] at e), fun e => hS.2 (by rwa [upd_ne (by decide)] at e)⟩⟩
            · have E76 := hval 4 _ 76 rfl rfl (dep_of hdep 4 (by rfl))
              unfold hw14 at E76
              have n6 := not_yet hcl hf 6 (by rfl)
              have hb := hS.1 n6
              have hce := cell_keep HCX.out hb
              refine g_plain rfl ?_
              exact does_value (w' := W) (v := .slice Ax x.length cx) (by go_simp) ⟨(), .inr rfl, ⟨fun e => hS.1 (by rwa [upd_ne (by decide)] at e), fun e => hS.2 (by rwa [upd_ne (by decide)] at e)⟩⟩
            · have E72 := hval 0 _ 72 rfl rfl (dep_of hdep 0 (by rfl))
              have E73 := hval 1 _ 73 rfl rfl (dep_of hdep 1 (by rfl))
              have E77 := hval 5 _ 77 rfl rfl (dep_of hdep 5 (by rfl))
              unfold hw14 at E72 E73 E77
              refine g_plain rfl ?_
              refine does_call 13 #[.pointer (some ⟨s, 0, none⟩), .agg (bcells d), .slice Ax x.length cx] (by go_simp) ((HPut.out W (hS.1 hf)).mono ?_)
              rintro _ W' ⟨rfl, F', k', f', p1, p2, p3, p4⟩
              have hb := hS.1 hf
              exact ⟨_, rfl, (), .inr rfl, ⟨fun e => (by rw [upd_eq] at e; cases e), fun _ => ⟨F', k', f', (HW5.out.keep hb).of p1 p3 p4, p2, (HKb5.out.keep hb).chg p3 HKf.out, notin_of p4 (HKb5.out.keep hb).lt HKf.out⟩⟩⟩
            · have E78 := hval 6 _ 78 rfl rfl (dep_of hdep 6 (by rfl))
              unfold hw14 at E78
              refine g_plain rfl ?_
              exact does_value (w' := W) (v := .tuple #[.bool pI, .int .i64 (pE : Int)]) (by go_simp) ⟨(), .inr rfl, ⟨fun e => hS.1 (by rwa [upd_ne (by decide)] at e), fun e => hS.2 (by rwa [upd_ne (by decide)] at e)⟩⟩
            · have E71 := hval 7 _ 71 rfl rfl (dep_of hdep 7 (by rfl))
              unfold hw14 at E71
              refine g_plain rfl ?_
              exact does_value (w' := W) (v := .bool pI) (by go_simp) ⟨(), .inr rfl, ⟨fun e => hS.1 (by rwa [upd_ne (by decide)] at e), fun e => hS.2 (by rwa [upd_ne (by decide)] at e)⟩⟩
            · have E71 := hval 7 _ 71 rfl rfl (dep_of hdep 7 (by rfl))
              unfold hw14 at E71
              refine g_plain rfl ?_
              exact does_value (w' := W) (v := .int .i64 (pE : Int)) (by go_simp) ⟨(), .inr rfl, ⟨fun e => hS.1 (by rwa [upd_ne (by decide)] at e), fun e => hS.2 (by rwa [upd_ne (by decide)] at e)⟩⟩
            · have E79 := hval 8 _ 79 rfl rfl (dep_of hdep 8 (by rfl))
              unfold hw14 at E79
              refine g_plain rfl ?_
              exact does_value (w' := W) (v := .bool pI) (by go_simp) ⟨(), .inr rfl, ⟨fun e => hS.1 (by rwa [upd_ne (by decide)] at e), fun e => hS.2 (by rwa [upd_ne (by decide)] at e)⟩⟩
            · have E80 := hval 9 _ 80 rfl rfl (dep_of hdep 9 (by rfl))
              unfold hw14 at E80
              refine g_plain rfl ?_
              exact does_value (w' := W) (v := .int .i64 (pE : Int)) (by go_simp) ⟨(), .inr rfl, ⟨fun e => hS.1 (by rwa [upd_ne (by decide)] at e), fun e => hS.2 (by rwa [upd_ne (by decide)] at e)⟩⟩
          · intro gh w6 hS
            have HX6 := hid (hS.2 rfl)
            simp only [putAll, hw14, Nat.reduceAdd, Nat.zero_add, Act.put, List.setIfInBounds_toArray, List.set_cons_zero, List.set_cons_succ]
            clear hS HPut HW5 HKD HKb5 HCX HSZ
            obtain ⟨F6, k6, f6, hlaw, hk6, hkb6, hkf6⟩ := HX6.out
            have HM6 := hid (HM.out.put x HXI.out (by omega))
            have hpc := put_cases HM.out.bw x (by omega)
            rw [HD.out, HPI.out, HPE.out] at hpc
            rw [HD.out, HPE.out] at HM6
            have hkl : i < K.length := by rw [HM.out.kn, HNL.out]; exact hlt
            have hck : w6.cell? ⟨kb, i, none⟩ = some (.bool K[i]) := hkb6.cell i (by simp [hkl])
            have hzk : w6.frozen? ⟨kb, i, none⟩ = false := hkb6.frozen i
            have HST := hid (fun v : Bool => (⟨hlaw.chg1 (Chg.of_grown (L := [kb]) (grown_setCell w6 kb i (.bool v)) (fun g' e => by cases e; simp)) hkf6 HKw.out, kept_set hkb6 v⟩ : LawB w (w6.setCell ⟨kb, i, none⟩ (.bool v)) F6 s m k6 (putB b d x) f6 ∧ KeptB (w6.setCell ⟨kb, i, none⟩ (.bool v)) kb (K.set i v)))
            have HKF6 := hid hkf6
            clear hlaw hkb6 hkf6
            rcases hpc with ⟨c1, c2, c3, c4⟩ | ⟨c1, c2, c3, c4⟩ | ⟨c1, c2 | c2, c4⟩
            · subst c1 c2
              rw [show ((0 : Nat) : Int) = 0 from rfl]
              have hq := HST.out true
              rw [show decide (0 = 0) = true from rfl] at HM6
              clear HST
              go_wp2_with fail
              generalize w6.setCell ⟨kb, i, none⟩ (.bool true) = w7 at hq ⊢
              have HW7 := hid hq.1; have HKb7 := hid hq.2
              obtain ⟨us, hus⟩ : ∃ us, usedB (putB b d x).l = us := ⟨_, rfl⟩
              have HUs := hid (fun W (hb : Below w7.heap.size w7 W) => used_calls (HW7.out.st.keep hb))
              rw [hus] at HUs
              have HWs := hid (show IntKind.i64.wrap ((was : Int) + (x.length : Int)) = (us : Int) from by
                have h1 : us = was + x.length := by rw [← hus, c4, ← HWas.out]; exact usedB_append b.l d x
                have h2 := HW7.out.st.ok.used
                have h3 := HW7.out.st.ok.r
                rw [hus] at h2
                rw [IntWalk.i64_in _ (by omega)]; omega)
              have HCX := hid ((HW7.out.below.cell (p := ⟨bl, off + i, none⟩) hbl).trans HCX0.out)
              clear hq hck hzk hus
              refine wp_region_invG 188 () (hw16A s bl off n c i cx was us Ax x) (fun _ _ W => Below w7.heap.size w7 W) (by kernel_rfl) (by kernel_rfl) (by exact Nat.le_refl 188) ?_ ?_ ?_
              · exact (Below.refl _ _).drew
              · intro i o f gh a W hi hf hdep hsame hcl hval hS
                rcases i with _ | _ | _ | _ | _ | _ | _ | _ | _ | _ | _ | _ | _ | _ | _ | _ | _ | _ | _ | _ | _ | _ | _ | _ | _ | _ | _ | _ | _ | _ | _ | _ | _ | _ | _ | _ | _ | _ | _ | i
                all_goals simp only [List.getElem?_cons_succ, List.getElem?_cons_zero, List.getElem?_nil, Option.some.injEq, reduceCtorEq] at hi
                all_goals subst hi
                · have E17 : a.tmps[17]? = some (.bool true) := (same_of hsame 17 (by rfl)).trans rfl
                  refine g_plain rfl ?_
                  exact does_value (w' := W) (v := .bool true) (by go_simp) ⟨(), .inr rfl, hS⟩
                · have E86 := hval 0 _ 86 rfl rfl (dep_of hdep 0 (by rfl))
                  unfold hw16A at E86
                  refine g_plain rfl ?_
                  exact does_value (w' := W) (v := .bool true) (by go_simp) ⟨(), .inr rfl, hS⟩
                · have EG := hval 1 _ 87 rfl rfl (dep_of hdep 1 (by rfl))
                  have E18 : a.tmps[18]? = some (.int .i64 (0 : Int)) := (same_of hsame 18 (by rfl)).trans rfl
                  unfold hw16A at EG
                  refine g_want rfl rfl rfl EG ?_
                  exact does_value (w' := W) (v := .int .i64 (0 : Int)) (by go_simp) ⟨(), .inr rfl, hS⟩
                · have EG := hval 1 _ 87 rfl rfl (dep_of hdep 1 (by rfl))
                  have E88 := hval 2 _ 88 rfl rfl (dep_of hdep 2 (by rfl))
                  unfold hw16A at EG E88
                  refine g_want rfl rfl rfl EG ?_
                  exact does_value (w' := W) (v := .bool false) (by go_simp) ⟨(), .inr rfl, hS⟩
                · have EG := hval 1 _ 87 rfl rfl (dep_of hdep 1 (by rfl))
                  have E89 := hval 3 _ 89 rfl rfl (dep_of hdep 3 (by rfl))
                  unfold hw16A at EG E89
                  refine g_want rfl rfl rfl EG ?_
                  exact does_value (w' := W) (v := .bool false) (by go_simp) ⟨(), .inr rfl, hS⟩
                · have EG := hval 4 _ 90 rfl rfl (dep_of hdep 4 (by rfl))
                  have E10 : a.tmps[10]? = some (.pointer (some ⟨s, 0, none⟩)) := (same_of hsame 10 (by rfl)).trans rfl
                  unfold hw16A at EG
                  refine g_want rfl rfl rfl EG ?_
                  exact does_value (w' := W) (v := .pointer (some ⟨s, 0, none⟩)) (by go_simp) ⟨(), .inr rfl, hS⟩
                · have EG := hval 4 _ 90 rfl rfl (dep_of hdep 4 (by rfl))
                  have E91 := hval 5 _ 91 rfl rfl (dep_of hdep 5 (by rfl))
                  unfold hw16A at EG E91
                  refine g_want rfl rfl rfl EG ?_
                  refine does_call 23 #[.pointer (some ⟨s, 0, none⟩)] (by go_simp) ((HUs.out W hS).mono ?_)
                  rintro _ _ ⟨rfl, rfl⟩
                  exact ⟨_, rfl, (), .inr rfl, hS⟩
                · have EG := hval 4 _ 90 rfl rfl (dep_of hdep 4 (by rfl))
                  have E16 : a.tmps[16]? = some (.int .i64 (was : Int)) := (same_of hsame 16 (by rfl)).trans rfl
                  unfold hw16A at EG
                  refine g_want rfl rfl rfl EG ?_
                  exact does_value (w' := W) (v := .int .i64 (was : Int)) (by go_simp) ⟨(), .inr rfl, hS⟩
                · have EG := hval 4 _ 90 rfl rfl (dep_of hdep 4 (by rfl))
                  have E2 : a.tmps[2]? = some (.slice (some ⟨bl, off, none⟩) n c) := (same_of hsame 2 (by rfl)).trans rfl
                  unfold hw16A at EG
                  refine g_want rfl rfl rfl EG ?_
                  exact does_value (w' := W) (v := .slice (some ⟨bl, off, none⟩) n c) (by go_simp) ⟨(), .inr rfl, hS⟩
                · have EG := hval 4 _ 90 rfl rfl (dep_of hdep 4 (by rfl))
                  have E13 : a.tmps[13]? = some (.int .i64 (i : Int)) := (same_of hsame 13 (by rfl)).trans rfl
                  unfold hw16A at EG
                  refine g_want rfl rfl rfl EG ?_
                  exact does_value (w' := W) (v := .int .i64 (i : Int)) (by go_simp) ⟨(), .inr rfl, hS⟩
                · have EG := hval 4 _ 90 rfl rfl (dep_of hdep 4 (by rfl))
                  have E94 := hval 8 _ 94 rfl rfl (dep_of hdep 8 (by rfl))
                  have E95 := hval 9 _ 95 rfl rfl (dep_of hdep 9 (by rfl))
                  unfold hw16A at EG E94 E95
                  have hlt1 := HLT.out.1; have hlt2 := HLT.out.2
                  refine g_want rfl rfl rfl EG ?_
                  exact does_value (w' := W) (v := .pointer (some ⟨bl, off + i, none⟩)) (by go_simp) ⟨(), .inr rfl, hS⟩
                · have EG := hval 4 _ 90 rfl rfl (dep_of hdep 4 (by rfl))
                  have E96 := hval 10 _ 96 rfl rfl (dep_of hdep 10 (by rfl))
                  unfold hw16A at EG E96
                  have hce := cell_keep HCX.out hS
                  refine g_want rfl rfl rfl EG ?_
                  exact does_value (w' := W) (v := .slice Ax x.length cx) (by go_simp) ⟨(), .inr rfl, hS⟩
                · have EG := hval 4 _ 90 rfl rfl (dep_of hdep 4 (by rfl))
                  have E97 := hval 11 _ 97 rfl rfl (dep_of hdep 11 (by rfl))
                  unfold hw16A at EG E97
                  refine g_want rfl rfl rfl EG ?_
                  exact does_value (w' := W) (v := .int .i64 (x.length : Int)) (by go_simp) ⟨(), .inr rfl, hS⟩
                · have EG := hval 4 _ 90 rfl rfl (dep_of hdep 4 (by rfl))
                  have E93 := hval 7 _ 93 rfl rfl (dep_of hdep 7 (by rfl))
                  have E98 := hval 12 _ 98 rfl rfl (dep_of hdep 12 (by rfl))
                  unfold hw16A at EG E93 E98
                  have hws := HWs.out
                  refine g_want rfl rfl rfl EG ?_
                  exact does_value (w' := W) (v := .int .i64 (us : Int)) (by go_simp) ⟨(), .inr rfl, hS⟩
                · have EG := hval 4 _ 90 rfl rfl (dep_of hdep 4 (by rfl))
                  have E92 := hval 6 _ 92 rfl rfl (dep_of hdep 6 (by rfl))
                  have E99 := hval 13 _ 99 rfl rfl (dep_of hdep 13 (by rfl))
                  unfold hw16A at EG E92 E99
                  refine g_want rfl rfl rfl EG ?_
                  exact does_value (w' := W) (v := .bool false) (by go_simp) ⟨(), .inr rfl, hS⟩
                · have EG := hval 1 _ 87 rfl rfl (dep_of hdep 1 (by rfl))
                  have E90 := hval 4 _ 90 rfl rfl (dep_of hdep 4 (by rfl))
                  have E100 := hval 14 _ 100 rfl rfl (dep_of hdep 14 (by rfl))
                  unfold hw16A at EG E90 E100
                  refine g_want rfl rfl rfl EG ?_
                  exact does_value (w' := W) (v := .bool false) (by go_simp) ⟨(), .inr rfl, hS⟩
                · have E87 := hval 1 _ 87 rfl rfl (dep_of hdep 1 (by rfl))
                  have E101 := hval 15 _ 101 rfl rfl (dep_of hdep 15 (by rfl))
                  unfold hw16A at E87 E101
                  refine g_plain rfl ?_
                  exact does_value (w' := W) (v := .bool false) (by go_simp) ⟨(), .inr rfl, hS⟩
                · have E102 := hval 16 _ 102 rfl rfl (dep_of hdep 16 (by rfl))
                  unfold hw16A at E102
                  refine g_plain rfl ?_
                  exact does_value (w' := W) (v := .bool false) (by go_simp) ⟨(), .inr rfl, hS⟩
                · have EG := hval 17 _ 103 rfl rfl (dep_of hdep 17 (by rfl))
                  have E17 : a.tmps[17]? = some (.bool true) := (same_of hsame 17 (by rfl)).trans rfl
                  unfold hw16A at EG
                  refine g_want rfl rfl rfl EG ?_
                  exact does_value (w' := W) (v := .bool true) (by go_simp) ⟨(), .inr rfl, hS⟩
                · have EG := hval 17 _ 103 rfl rfl (dep_of hdep 17 (by rfl))
                  have E104 := hval 18 _ 104 rfl rfl (dep_of hdep 18 (by rfl))
                  unfold hw16A at EG E104
                  refine g_want rfl rfl rfl EG ?_
                  exact does_value (w' := W) (v := .bool false) (by go_simp) ⟨(), .inr rfl, hS⟩
                · have EG := hval 17 _ 103 rfl rfl (dep_of hdep 17 (by rfl))
                  have E105 := hval 19 _ 105 rfl rfl (dep_of hdep 19 (by rfl))
                  unfold hw16A at EG E105
                  refine g_want rfl rfl rfl EG ?_
                  exact does_value (w' := W) (v := .bool false) (by go_simp) ⟨(), .inr rfl, hS⟩
                · have EG := hval 20 _ 106 rfl rfl (dep_of hdep 20 (by rfl))
                  unfold hw16A at EG
                  exact g_skip rfl rfl rfl EG rfl ⟨(), .inr rfl, hS⟩
                · have EG := hval 20 _ 106 rfl rfl (dep_of hdep 20 (by rfl))
                  unfold hw16A at EG
                  exact g_skip rfl rfl rfl EG rfl ⟨(), .inr rfl, hS⟩
                · have EG := hval 20 _ 106 rfl rfl (dep_of hdep 20 (by rfl))
                  unfold hw16A at EG
                  exact g_skip rfl rfl rfl EG rfl ⟨(), .inr rfl, hS⟩
                · have EG := hval 20 _ 106 rfl rfl (dep_of hdep 20 (by rfl))
                  unfold hw16A at EG
                  exact g_skip rfl rfl rfl EG rfl ⟨(), .inr rfl, hS⟩
                · have EG := hval 17 _ 103 rfl rfl (dep_of hdep 17 (by rfl))
                  have E106 := hval 20 _ 106 rfl rfl (dep_of hdep 20 (by rfl))
                  unfold hw16A at EG E106
                  refine g_want rfl rfl rfl EG ?_
                  exact does_value (w' := W) (v := .bool false) (by go_simp) ⟨(), .inr rfl, hS⟩
                · have E103 := hval 17 _ 103 rfl rfl (dep_of hdep 17 (by rfl))
                  have E111 := hval 25 _ 111 rfl rfl (dep_of hdep 25 (by rfl))
                  unfold hw16A at E103 E111
                  refine g_plain rfl ?_
                  exact does_value (w' := W) (v := .bool false) (by go_simp) ⟨(), .inr rfl, hS⟩
                · have E112 := hval 26 _ 112 rfl rfl (dep_of hdep 26 (by rfl))
                  unfold hw16A at E112
                  refine g_plain rfl ?_
                  exact does_value (w' := W) (v := .bool false) (by go_simp) ⟨(), .inr rfl, hS⟩
                · have EG := hval 27 _ 113 rfl rfl (dep_of hdep 27 (by rfl))
                  have E18 : a.tmps[18]? = some (.int .i64 (0 : Int)) := (same_of hsame 18 (by rfl)).trans rfl
                  unfold hw16A at EG
                  refine g_want rfl rfl rfl EG ?_
                  exact does_value (w' := W) (v := .int .i64 (0 : Int)) (by go_simp) ⟨(), .inr rfl, hS⟩
                · have EG := hval 27 _ 113 rfl rfl (dep_of hdep 27 (by rfl))
                  have E114 := hval 28 _ 114 rfl rfl (dep_of hdep 28 (by rfl))
                  unfold hw16A at EG E114
                  refine g_want rfl rfl rfl EG ?_
                  exact does_value (w' := W) (v := .bool false) (by go_simp) ⟨(), .inr rfl, hS⟩
                · have EG := hval 27 _ 113 rfl rfl (dep_of hdep 27 (by rfl))
                  have E115 := hval 29 _ 115 rfl rfl (dep_of hdep 29 (by rfl))
                  unfold hw16A at EG E115
                  refine g_want rfl rfl rfl EG ?_
                  exact does_value (w' := W) (v := .bool false) (by go_simp) ⟨(), .inr rfl, hS⟩
                · have EG := hval 30 _ 116 rfl rfl (dep_of hdep 30 (by rfl))
                  unfold hw16A at EG
                  exact g_skip rfl rfl rfl EG rfl ⟨(), .inr rfl, hS⟩
                · have EG := hval 30 _ 116 rfl rfl (dep_of hdep 30 (by rfl))
                  unfold hw16A at EG
                  exact g_skip rfl rfl rfl EG rfl ⟨(), .inr rfl, hS⟩
                · have EG := hval 27 _ 113 rfl rfl (dep_of hdep 27 (by rfl))
                  have E116 := hval 30 _ 116 rfl rfl (dep_of hdep 30 (by rfl))
                  unfold hw16A at EG E116
                  refine g_want rfl rfl rfl EG ?_
                  exact does_value (w' := W) (v := .bool false) (by go_simp) ⟨(), .inr rfl, hS⟩
                · have EG := hval 27 _ 113 rfl rfl (dep_of hdep 27 (by rfl))
                  have E119 := hval 33 _ 119 rfl rfl (dep_of hdep 33 (by rfl))
                  unfold hw16A at EG E119
                  refine g_want rfl rfl rfl EG ?_
                  exact does_value (w' := W) (v := .bool false) (by go_simp) ⟨(), .inr rfl, hS⟩
                · have EG := hval 34 _ 120 rfl rfl (dep_of hdep 34 (by rfl))
                  unfold hw16A at EG
                  exact g_skip rfl rfl rfl EG rfl ⟨(), .inr rfl, hS⟩
                · have EG := hval 34 _ 120 rfl rfl (dep_of hdep 34 (by rfl))
                  unfold hw16A at EG
                  exact g_skip rfl rfl rfl EG rfl ⟨(), .inr rfl, hS⟩
                · have EG := hval 27 _ 113 rfl rfl (dep_of hdep 27 (by rfl))
                  have E120 := hval 34 _ 120 rfl rfl (dep_of hdep 34 (by rfl))
                  unfold hw16A at EG E120
                  refine g_want rfl rfl rfl EG ?_
                  exact does_value (w' := W) (v := .bool false) (by go_simp) ⟨(), .inr rfl, hS⟩
                · have E113 := hval 27 _ 113 rfl rfl (dep_of hdep 27 (by rfl))
                  have E123 := hval 37 _ 123 rfl rfl (dep_of hdep 37 (by rfl))
                  unfold hw16A at E113 E123
                  refine g_plain rfl ?_
                  exact does_value (w' := W) (v := .bool false) (by go_simp) ⟨(), .inr rfl, hS⟩
              · intro gh w8 hS
                have HW8 := hid (HW7.out.keep hS); have HKb8 := hid (HKb7.out.keep hS)
                simp only [putAll, hw16A, Nat.reduceAdd, Nat.zero_add, Act.put, List.setIfInBounds_toArray, List.set_cons_zero, List.set_cons_succ]
                clear hS HUs HCX HW7 HKb7
                obtain ⟨bb, hbb⟩ : ∃ bb, putB b d x = bb := ⟨_, rfl⟩
                rw [hbb] at HW8 HM6
                obtain ⟨KK, hKK⟩ : ∃ KK, K.set i true = KK := ⟨_, rfl⟩
                rw [hKK] at HKb8 HM6
                clear hbb hKK
                by_cases hdl : i < n2
                · have hdl' : (i : Int) < (n2 : Int) := by omega
                  obtain ⟨b2, off2, z, hA2, hzz, hcz⟩ := (HZs.out.keep HW8.out.below).at_ hdl
                  subst hA2
                  have HPk := hid (pick_calls z 3 w8 (by omega) (by omega))
                  have HZZ := hid hzz
                  clear hzz
                  go_wp2_with fail
                  refine HPk.out.mono ?_
                  rintro _ _ ⟨rfl, rfl⟩
                  by_cases h3 : z % 3 = 0
                  · rw [h3]
                    have e1 : IntKind.i64.wrap ((i : Int) + 1) = ((i + 1 : Nat) : Int) := by rw [IntWalk.i64_in _ (by omega)]; omega
                    obtain ⟨kk, hkk⟩ : ∃ kk : Nat, (kk : Int) = z % ((i + 1 : Nat) : Int) := ⟨(z % ((i + 1 : Nat) : Int)).toNat, by have := Int.emod_nonneg z (show ((i + 1 : Nat) : Int) ≠ 0 by omega); omega⟩
                    have hkki : kk ≤ i := by have := Int.emod_lt_of_pos z (show (0 : Int) < ((i + 1 : Nat) : Int) by omega); omega
                    have HPk2 := hid (pick_calls z ((i + 1 : Nat) : Int) w8 (by omega) (by omega))
                    rw [← hkk] at HPk2
                    clear h3 hkk HPk
                    go_wp2_with fail
                    refine HPk2.out.mono ?_
                    rintro _ _ ⟨rfl, rfl⟩
                    obtain ⟨bl3, off3, Ay, cy, y, hA3, -, hyi, hcy, hsy, hcyy, -⟩ := HL.out.at_ (k := kk) (by rw [HNL.out]; omega)
                    cases hA3
                    have hyl := H40.out y (List.mem_of_getElem? hyi)
                    have hkn : kk < n := by omega
                    have hkn' : (kk : Int) < (n : Int) := by omega
                    have hce := (HW8.out.below.cell (p := ⟨bl, off + kk, none⟩) hbl).trans hcy
                    have HO2 := hid (own_of_calls w.heap.size y.length cy Ay y (wd : Int) _ (hsy.keepB HW8.out.below) hcyy (HW8.out.glob HG.out) (by omega))
                    rw [show cutE (wd : Int) = 0 from by rw [cutE, if_neg (by omega)], show cutB (sha y) (wd : Int) = digB y wd from rfl] at HO2
                    have HDL2 := hid (digB_length y wd)
                    obtain ⟨dx, hdx⟩ : ∃ dx, digB y wd = dx := ⟨_, rfl⟩
                    rw [hdx] at HO2 HDL2
                    have HSZx := hid (show (Tryd.prog.info? 32).map (·.size) = some (bcells dx).size from by rw [bcells_size, HDL2.out]; kernel_rfl)
                    have HZ3x := hid (show (bcells (zeroB 32)).size = (bcells dx).size from by rw [bcells_size, bcells_size, HDL2.out]; rfl)
                    clear hcy hsy hyi hdx e1 HPk2
                    go_wp2_with fail
                    refine HO2.out.mono ?_
                    rintro _ wa ⟨rfl, ba⟩
                    have HWa := hid (HW8.out.keep ba); have HKba := hid (HKb8.out.keep ba)
                    obtain ⟨q1, q2⟩ := new_set wa 32 (bcells (zeroB 32)) (bcells dx)
                    have K3 := hid (Blk.new wa 32 (bcells (zeroB 32)))
                    have HKD2 := hid q2; have HWb := hid (HWa.out.keep q1); have HKbb := hid (HKba.out.keep q1)
                    have hF2 : wa.heap.size ∉ F6 := fun h => by have := HWa.out.st.lt _ h; omega
                    have hkbl := HKba.out.lt
                    have hz := HZ.out
                    clear ba q1 q2 HO2 hce HW8 HKb8 HWa HKba hcz
                    go_wp2_with (first
                      | (refine wpList_store_blk rfl 32 _ _ rfl wa.heap.size _ rfl rfl 32 _ K3.out HSZx.out HZ3x.out (bcells_oneCell _) ?_)
                      | (refine wpList_load_blk rfl 32 _ rfl wa.heap.size rfl 32 _ HKD2.out _ _ Tryd.underlying32 HSZx.out ?_))
                    clear hz K3 HZ3x
                    generalize (wa.alloc (.cells (bcells (zeroB 32)) 32)).setRow wa.heap.size (bcells dx) = wb at HWb HKD2 HKbb ⊢
                    have hne : kb ≠ wa.heap.size := by omega
                    generalize wa.heap.size = o2 at HKD2 hF2 hne ⊢
                    refine (drop_calls HWb.out.st dx HDL2.out).mono ?_
                    rintro _ wc ⟨rfl, ⟨fl, p1⟩, p2⟩
                    have HWc := hid (HWb.out.of p1 p2 (fun x hx => .inl hx)); have HKbc := hid (show KeptB wc kb (dropK l wd dx 0 KK) from by rw [dropK_zero]; exact HKbb.out.chg p2 HKF6.out); have HKD3 := hid (HKD2.out.chg p2 hF2)
                    clear p1 p2 HWb HKbb HKD2
                    go_wp2_with fail
                    go_loopw [22] (fun v22 wr => ∃ mm : Nat, v22 = .int .i64 (mm : Int) ∧ mm ≤ i + 1 ∧ Hid (LawB w wr F6 s m k6 (dropB bb dx) fl) ∧ Hid (KeptB wr kb (dropK l wd dx mm KK)) ∧ Hid (Blk wr o2 32 (bcells dx))) (fun v22 _ => i + 1 - (intOf v22).toNat)
                    case atStart => exact ⟨0, rfl, Nat.zero_le _, HWc, HKbc, HKD3⟩
                    case round =>
                      clear HWc HKbc HKD3
                      obtain ⟨mm, rfl, hmm, HWl, HKbl, HKD2⟩ := hrel
                      by_cases hmi : mm ≤ i
                      · have hmi' : (mm : Int) ≤ (i : Int) := by omega
                        obtain ⟨bl4, off4, Am, cm, ym, hA4, -, hym, hcm, hsm, hcmm, -⟩ := HL.out.at_ (k := mm) (by rw [HNL.out]; omega)
                        cases hA4
                        have hyml := H40.out ym (List.mem_of_getElem? hym)
                        have hmn : mm < n := by omega
                        have hmn' : (mm : Int) < (n : Int) := by omega
                        have hce := (HWl.out.below.cell (p := ⟨bl, off + mm, none⟩) hbl).trans hcm
                        have HO3 := hid (own_of_calls w.heap.size ym.length cm Am ym (wd : Int) _ (hsm.keepB HWl.out.below) hcmm (HWl.out.glob HG.out) (by omega))
                        rw [show cutE (wd : Int) = 0 from by rw [cutE, if_neg (by omega)], show cutB (sha ym) (wd : Int) = digB ym wd from rfl] at HO3
                        have HDL3 := hid (digB_length ym wd)
                        have HNx := hid (dropK_next (wd := wd) (K := KK) (d := dx) (by rw [HM6.out.kn, HNL.out]; exact hmn) hym)
                        obtain ⟨dm, hdm⟩ : ∃ dm, digB ym wd = dm := ⟨_, rfl⟩
                        rw [hdm] at HO3 HDL3 HNx
                        have HSZm := hid (show (Tryd.prog.info? 32).map (·.size) = some (bcells dm).size from by rw [bcells_size, HDL3.out]; kernel_rfl)
                        have HZ3m := hid (show (bcells (zeroB 32)).size = (bcells dm).size from by rw [bcells_size, bcells_size, HDL3.out]; rfl)
                        have HEQ := hid (fun W => run_equal_arr (P := Tryd.prog) 32 5 32 Tryd.underlying32 Tryd.underlying5 (by kernel_rfl) dm dx HDL3.out HDL2.out W)
                        have HEQ := hid (show ∀ W, (Op.equalIn 10000 32 (.agg (bcells dm)) (.agg (bcells dx))).run Tryd.prog W = .ok (dm == dx) W from HEQ.out)
                        obtain ⟨ev, hev⟩ : ∃ ev, (dm == dx) = ev := ⟨_, rfl⟩
                        rw [hev] at HEQ HNx
                        clear hcm hsm hym hdm hev
                        go_wp2_with fail
                        refine HO3.out.mono ?_
                        rintro _ wd4 ⟨rfl, bd⟩
                        have HWd := hid (HWl.out.keep bd); have HKbd := hid (HKbl.out.keep bd); have HKDd := hid (HKD2.out.keep bd)
                        obtain ⟨q1, q2⟩ := new_set wd4 32 (bcells (zeroB 32)) (bcells dm)
                        have K3 := hid (Blk.new wd4 32 (bcells (zeroB 32)))
                        have HKm := hid q2; have HWe := hid (HWd.out.keep q1); have HKbe := hid (HKbd.out.keep q1); have HKDe := hid (HKDd.out.keep q1)
                        have hz := HZ.out
                        have hkml : mm < KK.length := by rw [HM6.out.kn, HNL.out]; exact hmn
                        have hkmc : ((wd4.alloc (.cells (bcells (zeroB 32)) 32)).setRow wd4.heap.size (bcells dm)).cell? ⟨kb, mm, none⟩ = some (.bool (KK.getD mm false)) := HKbe.out.cell mm (by
                          rw [List.getElem?_toArray, List.getElem?_map, dropK_get hkml]
                          simp)
                        have hzm : ((wd4.alloc (.cells (bcells (zeroB 32)) 32)).setRow wd4.heap.size (bcells dm)).frozen? ⟨kb, mm, none⟩ = false := HKbe.out.frozen mm
                        clear bd q1 q2 HO3 hce HWl HKbl HKD2 HWd HKbd HKDd
                        have heq := HEQ.out
                        cases hkv : KK.getD mm false with
                        | false =>
                          rw [hkv] at hkmc HNx
                          rw [Bool.false_and] at HNx
                          clear hkv
                          go_wp2_with (first
                            | (refine wpList_store_blk rfl 32 _ _ rfl wd4.heap.size _ rfl rfl 32 _ K3.out HSZm.out HZ3m.out (bcells_oneCell _) ?_))
                          generalize (wd4.alloc (.cells (bcells (zeroB 32)) 32)).setRow wd4.heap.size (bcells dm) = we at HWe HKbe HKDe ⊢
                          have HWf := hid (HWe.out.chg1 (Chg.of_grown (L := [kb]) (grown_setCell we kb mm (.bool false)) (fun g' e => by cases e; simp)) HKF6.out HKw.out)
                          have HKbf := hid (show KeptB (we.setCell ⟨kb, mm, none⟩ (.bool false)) kb (dropK l wd dx (mm + 1) KK) from by rw [HNx.out]; exact kept_set HKbe.out false)
                          have HKDf := hid (HKDe.out.grown (grown_setCell we kb mm (.bool false)) (by simpa using hne))
                          go_roundw
                          case rel => exact ⟨mm + 1, by go_num, by omega, HWf, HKbf, HKDf⟩
                          case measure => simp [intOf]; omega
                        | true =>
                          rw [hkv] at hkmc HNx
                          rw [Bool.true_and] at HNx
                          clear hkv
                          go_wp2_with (first
                            | (refine wpList_store_blk rfl 32 _ _ rfl wd4.heap.size _ rfl rfl 32 _ K3.out HSZm.out HZ3m.out (bcells_oneCell _) ?_)
                            | (refine wpList_load_blk_g (by rfl) 32 (.tmp 23) rfl wd4.heap.size rfl 32 _ HKm.out _ _ Tryd.underlying32 HSZm.out ?_)
                            | (refine wpList_load_blk_g (by rfl) 32 (.tmp 20) rfl o2 rfl 32 _ HKDe.out _ _ Tryd.underlying32 HSZx.out ?_))
                          generalize (wd4.alloc (.cells (bcells (zeroB 32)) 32)).setRow wd4.heap.size (bcells dm) = we at HWe HKbe HKDe ⊢
                          have HWf := hid (HWe.out.chg1 (Chg.of_grown (L := [kb]) (grown_setCell we kb mm (.bool (!ev))) (fun g' e => by cases e; simp)) HKF6.out HKw.out)
                          have HKbf := hid (show KeptB (we.setCell ⟨kb, mm, none⟩ (.bool (!ev))) kb (dropK l wd dx (mm + 1) KK) from by rw [HNx.out]; exact kept_set HKbe.out (!ev))
                          have HKDf := hid (HKDe.out.grown (grown_setCell we kb mm (.bool (!ev))) (by simpa using hne))
                          go_roundw
                          case rel => exact ⟨mm + 1, by go_num, by omega, HWf, HKbf, HKDf⟩
                          case measure => simp [intOf]; omega
                      · obtain rfl : mm = i + 1 := by omega
                        have hmi' : ¬ ((i + 1 : Nat) : Int) ≤ (i : Int) := by omega
                        have HMl := hid (HM6.out.drop dx)
                        have HHo := hid (holds_calls HWl.out.st (by omega) (some ⟨bl, off, none⟩) c l (slb_more (HL.out.keepB HWl.out.below) HWl.out.below.size) n HNL.out (by omega) H40.out kb n (dropK l wd dx (i + 1) KK) (by rw [HMl.out.kn, HNL.out]) HKbl.out (fun p hp => by rw [HMl.out.bw]; exact HMl.out.dig p hp) (fun q z hz hk => by rw [HMl.out.bw] ; exact HMl.out.kept q z hz hk) (HWl.out.glob HG.out))
                        go_wp2_with fail
                        refine HHo.out.mono ?_
                        rintro _ w9 ⟨rfl, b9⟩
                        have HLn := hid (show HoldL w w9 wd rn kb l (i + 1) s m from ⟨F6, k6, (dropB bb dx), fl, (dropK l wd dx (i + 1) KK), HWl.out.keep b9, HMl.out, by omega, HKbl.out.keep b9, HKF6.out, HKw.out⟩)
                        clear b9 HHo
                        go_wp2_with fail
                        go_roundw
                        case rel => exact ⟨i + 1, by go_num, by omega, HLn⟩
                        case measure => simp [intOf]; omega
                  · have h3' : ¬ (z % 3 : Int) = 0 := h3
                    generalize z % 3 = zr at h3 h3' ⊢
                    clear hcz
                    have HHo := hid (holds_calls HW8.out.st (by omega) (some ⟨bl, off, none⟩) c l (slb_more (HL.out.keepB HW8.out.below) HW8.out.below.size) n HNL.out (by omega) H40.out kb n KK (by rw [HM6.out.kn, HNL.out]) HKb8.out (fun p hp => by rw [HM6.out.bw]; exact HM6.out.dig p hp) (fun q z hz hk => by rw [HM6.out.bw] ; exact HM6.out.kept q z hz hk) (HW8.out.glob HG.out))
                    go_wp2_with fail
                    refine HHo.out.mono ?_
                    rintro _ w9 ⟨rfl, b9⟩
                    have HLn := hid (show HoldL w w9 wd rn kb l (i + 1) s m from ⟨F6, k6, bb, f6, KK, HW8.out.keep b9, HM6.out, by omega, HKb8.out.keep b9, HKF6.out, HKw.out⟩)
                    clear b9 HHo
                    go_wp2_with fail
                    go_roundw
                    case rel => exact ⟨i + 1, by go_num, by omega, HLn⟩
                    case measure => simp [intOf]; omega
                · have hdl' : ¬ (i : Int) < (n2 : Int) := by omega
                  have HHo := hid (holds_calls HW8.out.st (by omega) (some ⟨bl, off, none⟩) c l (slb_more (HL.out.keepB HW8.out.below) HW8.out.below.size) n HNL.out (by omega) H40.out kb n KK (by rw [HM6.out.kn, HNL.out]) HKb8.out (fun p hp => by rw [HM6.out.bw]; exact HM6.out.dig p hp) (fun q z hz hk => by rw [HM6.out.bw] ; exact HM6.out.kept q z hz hk) (HW8.out.glob HG.out))
                  go_wp2_with fail
                  refine HHo.out.mono ?_
                  rintro _ w9 ⟨rfl, b9⟩
                  have HLn := hid (show HoldL w w9 wd rn kb l (i + 1) s m from ⟨F6, k6, bb, f6, KK, HW8.out.keep b9, HM6.out, by omega, HKb8.out.keep b9, HKF6.out, HKw.out⟩)
                  clear b9 HHo
                  go_wp2_with fail
                  go_roundw
                  case rel => exact ⟨i + 1, by go_num, by omega, HLn⟩
                  case measure => simp [intOf]; omega
            · subst c1 c2
              rw [show ((0 : Nat) : Int) = 0 from rfl]
              have hq := HST.out true
              rw [show decide (0 = 0) = true from rfl] at HM6
              clear HST
              go_wp2_with fail
              generalize w6.setCell ⟨kb, i, none⟩ (.bool true) = w7 at hq ⊢
              have HW7 := hid hq.1; have HKb7 := hid hq.2
              obtain ⟨us, hus⟩ : ∃ us, usedB (putB b d x).l = us := ⟨_, rfl⟩
              have HUs := hid (fun W (hb : Below w7.heap.size w7 W) => used_calls (HW7.out.st.keep hb))
              rw [hus] at HUs
              have e : us = was := by rw [← hus, c4, HWas.out]
              subst e
              have HCX := hid ((HW7.out.below.cell (p := ⟨bl, off + i, none⟩) hbl).trans HCX0.out)
              clear hq hck hzk hus
              refine wp_region_invG 188 () (hw16B s us) (fun _ _ W => Below w7.heap.size w7 W) (by kernel_rfl) (by kernel_rfl) (by exact Nat.le_refl 188) ?_ ?_ ?_
              · exact (Below.refl _ _).drew
              · intro i o f gh a W hi hf hdep hsame hcl hval hS
                rcases i with _ | _ | _ | _ | _ | _ | _ | _ | _ | _ | _ | _ | _ | _ | _ | _ | _ | _ | _ | _ | _ | _ | _ | _ | _ | _ | _ | _ | _ | _ | _ | _ | _ | _ | _ | _ | _ | _ | _ | i
                all_goals simp only [List.getElem?_cons_succ, List.getElem?_cons_zero, List.getElem?_nil, Option.some.injEq, reduceCtorEq] at hi
                all_goals subst hi
                · have E17 : a.tmps[17]? = some (.bool false) := (same_of hsame 17 (by rfl)).trans rfl
                  refine g_plain rfl ?_
                  exact does_value (w' := W) (v := .bool false) (by go_simp) ⟨(), .inr rfl, hS⟩
                · have E86 := hval 0 _ 86 rfl rfl (dep_of hdep 0 (by rfl))
                  unfold hw16B at E86
                  refine g_plain rfl ?_
                  exact does_value (w' := W) (v := .bool false) (by go_simp) ⟨(), .inr rfl, hS⟩
                · have EG := hval 1 _ 87 rfl rfl (dep_of hdep 1 (by rfl))
                  unfold hw16B at EG
                  exact g_skip rfl rfl rfl EG rfl ⟨(), .inr rfl, hS⟩
                · have EG := hval 1 _ 87 rfl rfl (dep_of hdep 1 (by rfl))
                  unfold hw16B at EG
                  exact g_skip rfl rfl rfl EG rfl ⟨(), .inr rfl, hS⟩
                · have EG := hval 1 _ 87 rfl rfl (dep_of hdep 1 (by rfl))
                  unfold hw16B at EG
                  exact g_skip rfl rfl rfl EG rfl ⟨(), .inr rfl, hS⟩
                · have EG := hval 4 _ 90 rfl rfl (dep_of hdep 4 (by rfl))
                  unfold hw16B at EG
                  exact g_skip_u rfl rfl rfl EG ⟨(), .inr rfl, hS⟩
                · have EG := hval 4 _ 90 rfl rfl (dep_of hdep 4 (by rfl))
                  unfold hw16B at EG
                  exact g_skip_u rfl rfl rfl EG ⟨(), .inr rfl, hS⟩
                · have EG := hval 4 _ 90 rfl rfl (dep_of hdep 4 (by rfl))
                  unfold hw16B at EG
                  exact g_skip_u rfl rfl rfl EG ⟨(), .inr rfl, hS⟩
                · have EG := hval 4 _ 90 rfl rfl (dep_of hdep 4 (by rfl))
                  unfold hw16B at EG
                  exact g_skip_u rfl rfl rfl EG ⟨(), .inr rfl, hS⟩
                · have EG := hval 4 _ 90 rfl rfl (dep_of hdep 4 (by rfl))
                  unfold hw16B at EG
                  exact g_skip_u rfl rfl rfl EG ⟨(), .inr rfl, hS⟩
                · have EG := hval 4 _ 90 rfl rfl (dep_of hdep 4 (by rfl))
                  unfold hw16B at EG
                  exact g_skip_u rfl rfl rfl EG ⟨(), .inr rfl, hS⟩
                · have EG := hval 4 _ 90 rfl rfl (dep_of hdep 4 (by rfl))
                  unfold hw16B at EG
                  exact g_skip_u rfl rfl rfl EG ⟨(), .inr rfl, hS⟩
                · have EG := hval 4 _ 90 rfl rfl (dep_of hdep 4 (by rfl))
                  unfold hw16B at EG
                  exact g_skip_u rfl rfl rfl EG ⟨(), .inr rfl, hS⟩
                · have EG := hval 4 _ 90 rfl rfl (dep_of hdep 4 (by rfl))
                  unfold hw16B at EG
                  exact g_skip_u rfl rfl rfl EG ⟨(), .inr rfl, hS⟩
                · have EG := hval 4 _ 90 rfl rfl (dep_of hdep 4 (by rfl))
                  unfold hw16B at EG
                  exact g_skip_u rfl rfl rfl EG ⟨(), .inr rfl, hS⟩
                · have EG := hval 1 _ 87 rfl rfl (dep_of hdep 1 (by rfl))
                  unfold hw16B at EG
                  exact g_skip rfl rfl rfl EG rfl ⟨(), .inr rfl, hS⟩
                · have E87 := hval 1 _ 87 rfl rfl (dep_of hdep 1 (by rfl))
                  unfold hw16B at E87
                  refine g_plain rfl ?_
                  exact does_value (w' := W) (v := .bool false) (by go_simp) ⟨(), .inr rfl, hS⟩
                · have E102 := hval 16 _ 102 rfl rfl (dep_of hdep 16 (by rfl))
                  unfold hw16B at E102
                  refine g_plain rfl ?_
                  exact does_value (w' := W) (v := .bool false) (by go_simp) ⟨(), .inr rfl, hS⟩
                · have EG := hval 17 _ 103 rfl rfl (dep_of hdep 17 (by rfl))
                  have E17 : a.tmps[17]? = some (.bool false) := (same_of hsame 17 (by rfl)).trans rfl
                  unfold hw16B at EG
                  refine g_want rfl rfl rfl EG ?_
                  exact does_value (w' := W) (v := .bool false) (by go_simp) ⟨(), .inr rfl, hS⟩
                · have EG := hval 17 _ 103 rfl rfl (dep_of hdep 17 (by rfl))
                  have E104 := hval 18 _ 104 rfl rfl (dep_of hdep 18 (by rfl))
                  unfold hw16B at EG E104
                  refine g_want rfl rfl rfl EG ?_
                  exact does_value (w' := W) (v := .bool true) (by go_simp) ⟨(), .inr rfl, hS⟩
                · have EG := hval 17 _ 103 rfl rfl (dep_of hdep 17 (by rfl))
                  have E105 := hval 19 _ 105 rfl rfl (dep_of hdep 19 (by rfl))
                  unfold hw16B at EG E105
                  refine g_want rfl rfl rfl EG ?_
                  exact does_value (w' := W) (v := .bool true) (by go_simp) ⟨(), .inr rfl, hS⟩
                · have EG := hval 20 _ 106 rfl rfl (dep_of hdep 20 (by rfl))
                  have E10 : a.tmps[10]? = some (.pointer (some ⟨s, 0, none⟩)) := (same_of hsame 10 (by rfl)).trans rfl
                  unfold hw16B at EG
                  refine g_want rfl rfl rfl EG ?_
                  exact does_value (w' := W) (v := .pointer (some ⟨s, 0, none⟩)) (by go_simp) ⟨(), .inr rfl, hS⟩
                · have EG := hval 20 _ 106 rfl rfl (dep_of hdep 20 (by rfl))
                  have E107 := hval 21 _ 107 rfl rfl (dep_of hdep 21 (by rfl))
                  unfold hw16B at EG E107
                  refine g_want rfl rfl rfl EG ?_
                  refine does_call 23 #[.pointer (some ⟨s, 0, none⟩)] (by go_simp) ((HUs.out W hS).mono ?_)
                  rintro _ _ ⟨rfl, rfl⟩
                  exact ⟨_, rfl, (), .inr rfl, hS⟩
                · have EG := hval 20 _ 106 rfl rfl (dep_of hdep 20 (by rfl))
                  have E16 : a.tmps[16]? = some (.int .i64 (us : Int)) := (same_of hsame 16 (by rfl)).trans rfl
                  unfold hw16B at EG
                  refine g_want rfl rfl rfl EG ?_
                  exact does_value (w' := W) (v := .int .i64 (us : Int)) (by go_simp) ⟨(), .inr rfl, hS⟩
                · have EG := hval 20 _ 106 rfl rfl (dep_of hdep 20 (by rfl))
                  have E108 := hval 22 _ 108 rfl rfl (dep_of hdep 22 (by rfl))
                  have E109 := hval 23 _ 109 rfl rfl (dep_of hdep 23 (by rfl))
                  unfold hw16B at EG E108 E109
                  refine g_want rfl rfl rfl EG ?_
                  exact does_value (w' := W) (v := .bool false) (by go_simp) ⟨(), .inr rfl, hS⟩
                · have EG := hval 17 _ 103 rfl rfl (dep_of hdep 17 (by rfl))
                  have E106 := hval 20 _ 106 rfl rfl (dep_of hdep 20 (by rfl))
                  have E110 := hval 24 _ 110 rfl rfl (dep_of hdep 24 (by rfl))
                  unfold hw16B at EG E106 E110
                  refine g_want rfl rfl rfl EG ?_
                  exact does_value (w' := W) (v := .bool false) (by go_simp) ⟨(), .inr rfl, hS⟩
                · have E103 := hval 17 _ 103 rfl rfl (dep_of hdep 17 (by rfl))
                  have E111 := hval 25 _ 111 rfl rfl (dep_of hdep 25 (by rfl))
                  unfold hw16B at E103 E111
                  refine g_plain rfl ?_
                  exact does_value (w' := W) (v := .bool false) (by go_simp) ⟨(), .inr rfl, hS⟩
                · have E112 := hval 26 _ 112 rfl rfl (dep_of hdep 26 (by rfl))
                  unfold hw16B at E112
                  refine g_plain rfl ?_
                  exact does_value (w' := W) (v := .bool false) (by go_simp) ⟨(), .inr rfl, hS⟩
                · have EG := hval 27 _ 113 rfl rfl (dep_of hdep 27 (by rfl))
                  have E18 : a.tmps[18]? = some (.int .i64 (0 : Int)) := (same_of hsame 18 (by rfl)).trans rfl
                  unfold hw16B at EG
                  refine g_want rfl rfl rfl EG ?_
                  exact does_value (w' := W) (v := .int .i64 (0 : Int)) (by go_simp) ⟨(), .inr rfl, hS⟩
                · have EG := hval 27 _ 113 rfl rfl (dep_of hdep 27 (by rfl))
                  have E114 := hval 28 _ 114 rfl rfl (dep_of hdep 28 (by rfl))
                  unfold hw16B at EG E114
                  refine g_want rfl rfl rfl EG ?_
                  exact does_value (w' := W) (v := .bool false) (by go_simp) ⟨(), .inr rfl, hS⟩
                · have EG := hval 27 _ 113 rfl rfl (dep_of hdep 27 (by rfl))
                  have E115 := hval 29 _ 115 rfl rfl (dep_of hdep 29 (by rfl))
                  unfold hw16B at EG E115
                  refine g_want rfl rfl rfl EG ?_
                  exact does_value (w' := W) (v := .bool false) (by go_simp) ⟨(), .inr rfl, hS⟩
                · have EG := hval 30 _ 116 rfl rfl (dep_of hdep 30 (by rfl))
                  unfold hw16B at EG
                  exact g_skip rfl rfl rfl EG rfl ⟨(), .inr rfl, hS⟩
                · have EG := hval 30 _ 116 rfl rfl (dep_of hdep 30 (by rfl))
                  unfold hw16B at EG
                  exact g_skip rfl rfl rfl EG rfl ⟨(), .inr rfl, hS⟩
                · have EG := hval 27 _ 113 rfl rfl (dep_of hdep 27 (by rfl))
                  have E116 := hval 30 _ 116 rfl rfl (dep_of hdep 30 (by rfl))
                  unfold hw16B at EG E116
                  refine g_want rfl rfl rfl EG ?_
                  exact does_value (w' := W) (v := .bool false) (by go_simp) ⟨(), .inr rfl, hS⟩
                · have EG := hval 27 _ 113 rfl rfl (dep_of hdep 27 (by rfl))
                  have E119 := hval 33 _ 119 rfl rfl (dep_of hdep 33 (by rfl))
                  unfold hw16B at EG E119
                  refine g_want rfl rfl rfl EG ?_
                  exact does_value (w' := W) (v := .bool false) (by go_simp) ⟨(), .inr rfl, hS⟩
                · have EG := hval 34 _ 120 rfl rfl (dep_of hdep 34 (by rfl))
                  unfold hw16B at EG
                  exact g_skip rfl rfl rfl EG rfl ⟨(), .inr rfl, hS⟩
                · have EG := hval 34 _ 120 rfl rfl (dep_of hdep 34 (by rfl))
                  unfold hw16B at EG
                  exact g_skip rfl rfl rfl EG rfl ⟨(), .inr rfl, hS⟩
                · have EG := hval 27 _ 113 rfl rfl (dep_of hdep 27 (by rfl))
                  have E120 := hval 34 _ 120 rfl rfl (dep_of hdep 34 (by rfl))
                  unfold hw16B at EG E120
                  refine g_want rfl rfl rfl EG ?_
                  exact does_value (w' := W) (v := .bool false) (by go_simp) ⟨(), .inr rfl, hS⟩
                · have E113 := hval 27 _ 113 rfl rfl (dep_of hdep 27 (by rfl))
                  have E123 := hval 37 _ 123 rfl rfl (dep_of hdep 37 (by rfl))
                  unfold hw16B at E113 E123
                  refine g_plain rfl ?_
                  exact does_value (w' := W) (v := .bool false) (by go_simp) ⟨(), .inr rfl, hS⟩
              · intro gh w8 hS
                have HW8 := hid (HW7.out.keep hS); have HKb8 := hid (HKb7.out.keep hS)
                simp only [putAll, hw16B, Nat.reduceAdd, Nat.zero_add, Act.put, List.setIfInBounds_toArray, List.set_cons_zero, List.set_cons_succ]
                clear hS HUs HCX HW7 HKb7
                obtain ⟨bb, hbb⟩ : ∃ bb, putB b d x = bb := ⟨_, rfl⟩
                rw [hbb] at HW8 HM6
                obtain ⟨KK, hKK⟩ : ∃ KK, K.set i true = KK := ⟨_, rfl⟩
                rw [hKK] at HKb8 HM6
                clear hbb hKK
                by_cases hdl : i < n2
                · have hdl' : (i : Int) < (n2 : Int) := by omega
                  obtain ⟨b2, off2, z, hA2, hzz, hcz⟩ := (HZs.out.keep HW8.out.below).at_ hdl
                  subst hA2
                  have HPk := hid (pick_calls z 3 w8 (by omega) (by omega))
                  have HZZ := hid hzz
                  clear hzz
                  go_wp2_with fail
                  refine HPk.out.mono ?_
                  rintro _ _ ⟨rfl, rfl⟩
                  by_cases h3 : z % 3 = 0
                  · rw [h3]
                    have e1 : IntKind.i64.wrap ((i : Int) + 1) = ((i + 1 : Nat) : Int) := by rw [IntWalk.i64_in _ (by omega)]; omega
                    obtain ⟨kk, hkk⟩ : ∃ kk : Nat, (kk : Int) = z % ((i + 1 : Nat) : Int) := ⟨(z % ((i + 1 : Nat) : Int)).toNat, by have := Int.emod_nonneg z (show ((i + 1 : Nat) : Int) ≠ 0 by omega); omega⟩
                    have hkki : kk ≤ i := by have := Int.emod_lt_of_pos z (show (0 : Int) < ((i + 1 : Nat) : Int) by omega); omega
                    have HPk2 := hid (pick_calls z ((i + 1 : Nat) : Int) w8 (by omega) (by omega))
                    rw [← hkk] at HPk2
                    clear h3 hkk HPk
                    go_wp2_with fail
                    refine HPk2.out.mono ?_
                    rintro _ _ ⟨rfl, rfl⟩
                    obtain ⟨bl3, off3, Ay, cy, y, hA3, -, hyi, hcy, hsy, hcyy, -⟩ := HL.out.at_ (k := kk) (by rw [HNL.out]; omega)
                    cases hA3
                    have hyl := H40.out y (List.mem_of_getElem? hyi)
                    have hkn : kk < n := by omega
                    have hkn' : (kk : Int) < (n : Int) := by omega
                    have hce := (HW8.out.below.cell (p := ⟨bl, off + kk, none⟩) hbl).trans hcy
                    have HO2 := hid (own_of_calls w.heap.size y.length cy Ay y (wd : Int) _ (hsy.keepB HW8.out.below) hcyy (HW8.out.glob HG.out) (by omega))
                    rw [show cutE (wd : Int) = 0 from by rw [cutE, if_neg (by omega)], show cutB (sha y) (wd : Int) = digB y wd from rfl] at HO2
                    have HDL2 := hid (digB_length y wd)
                    obtain ⟨dx, hdx⟩ : ∃ dx, digB y wd = dx := ⟨_, rfl⟩
                    rw [hdx] at HO2 HDL2
                    have HSZx := hid (show (Tryd.prog.info? 32).map (·.size) = some (bcells dx).size from by rw [bcells_size, HDL2.out]; kernel_rfl)
                    have HZ3x := hid (show (bcells (zeroB 32)).size = (bcells dx).size from by rw [bcells_size, bcells_size, HDL2.out]; rfl)
                    clear hcy hsy hyi hdx e1 HPk2
                    go_wp2_with fail
                    refine HO2.out.mono ?_
                    rintro _ wa ⟨rfl, ba⟩
                    have HWa := hid (HW8.out.keep ba); have HKba := hid (HKb8.out.keep ba)
                    obtain ⟨q1, q2⟩ := new_set wa 32 (bcells (zeroB 32)) (bcells dx)
                    have K3 := hid (Blk.new wa 32 (bcells (zeroB 32)))
                    have HKD2 := hid q2; have HWb := hid (HWa.out.keep q1); have HKbb := hid (HKba.out.keep q1)
                    have hF2 : wa.heap.size ∉ F6 := fun h => by have := HWa.out.st.lt _ h; omega
                    have hkbl := HKba.out.lt
                    have hz := HZ.out
                    clear ba q1 q2 HO2 hce HW8 HKb8 HWa HKba hcz
                    go_wp2_with (first
                      | (refine wpList_store_blk rfl 32 _ _ rfl wa.heap.size _ rfl rfl 32 _ K3.out HSZx.out HZ3x.out (bcells_oneCell _) ?_)
                      | (refine wpList_load_blk rfl 32 _ rfl wa.heap.size rfl 32 _ HKD2.out _ _ Tryd.underlying32 HSZx.out ?_))
                    clear hz K3 HZ3x
                    generalize (wa.alloc (.cells (bcells (zeroB 32)) 32)).setRow wa.heap.size (bcells dx) = wb at HWb HKD2 HKbb ⊢
                    have hne : kb ≠ wa.heap.size := by omega
                    generalize wa.heap.size = o2 at HKD2 hF2 hne ⊢
                    refine (drop_calls HWb.out.st dx HDL2.out).mono ?_
                    rintro _ wc ⟨rfl, ⟨fl, p1⟩, p2⟩
                    have HWc := hid (HWb.out.of p1 p2 (fun x hx => .inl hx)); have HKbc := hid (show KeptB wc kb (dropK l wd dx 0 KK) from by rw [dropK_zero]; exact HKbb.out.chg p2 HKF6.out); have HKD3 := hid (HKD2.out.chg p2 hF2)
                    clear p1 p2 HWb HKbb HKD2
                    go_wp2_with fail
                    go_loopw [22] (fun v22 wr => ∃ mm : Nat, v22 = .int .i64 (mm : Int) ∧ mm ≤ i + 1 ∧ Hid (LawB w wr F6 s m k6 (dropB bb dx) fl) ∧ Hid (KeptB wr kb (dropK l wd dx mm KK)) ∧ Hid (Blk wr o2 32 (bcells dx))) (fun v22 _ => i + 1 - (intOf v22).toNat)
                    case atStart => exact ⟨0, rfl, Nat.zero_le _, HWc, HKbc, HKD3⟩
                    case round =>
                      clear HWc HKbc HKD3
                      obtain ⟨mm, rfl, hmm, HWl, HKbl, HKD2⟩ := hrel
                      by_cases hmi : mm ≤ i
                      · have hmi' : (mm : Int) ≤ (i : Int) := by omega
                        obtain ⟨bl4, off4, Am, cm, ym, hA4, -, hym, hcm, hsm, hcmm, -⟩ := HL.out.at_ (k := mm) (by rw [HNL.out]; omega)
                        cases hA4
                        have hyml := H40.out ym (List.mem_of_getElem? hym)
                        have hmn : mm < n := by omega
                        have hmn' : (mm : Int) < (n : Int) := by omega
                        have hce := (HWl.out.below.cell (p := ⟨bl, off + mm, none⟩) hbl).trans hcm
                        have HO3 := hid (own_of_calls w.heap.size ym.length cm Am ym (wd : Int) _ (hsm.keepB HWl.out.below) hcmm (HWl.out.glob HG.out) (by omega))
                        rw [show cutE (wd : Int) = 0 from by rw [cutE, if_neg (by omega)], show cutB (sha ym) (wd : Int) = digB ym wd from rfl] at HO3
                        have HDL3 := hid (digB_length ym wd)
                        have HNx := hid (dropK_next (wd := wd) (K := KK) (d := dx) (by rw [HM6.out.kn, HNL.out]; exact hmn) hym)
                        obtain ⟨dm, hdm⟩ : ∃ dm, digB ym wd = dm := ⟨_, rfl⟩
                        rw [hdm] at HO3 HDL3 HNx
                        have HSZm := hid (show (Tryd.prog.info? 32).map (·.size) = some (bcells dm).size from by rw [bcells_size, HDL3.out]; kernel_rfl)
                        have HZ3m := hid (show (bcells (zeroB 32)).size = (bcells dm).size from by rw [bcells_size, bcells_size, HDL3.out]; rfl)
                        have HEQ := hid (fun W => run_equal_arr (P := Tryd.prog) 32 5 32 Tryd.underlying32 Tryd.underlying5 (by kernel_rfl) dm dx HDL3.out HDL2.out W)
                        have HEQ := hid (show ∀ W, (Op.equalIn 10000 32 (.agg (bcells dm)) (.agg (bcells dx))).run Tryd.prog W = .ok (dm == dx) W from HEQ.out)
                        obtain ⟨ev, hev⟩ : ∃ ev, (dm == dx) = ev := ⟨_, rfl⟩
                        rw [hev] at HEQ HNx
                        clear hcm hsm hym hdm hev
                        go_wp2_with fail
                        refine HO3.out.mono ?_
                        rintro _ wd4 ⟨rfl, bd⟩
                        have HWd := hid (HWl.out.keep bd); have HKbd := hid (HKbl.out.keep bd); have HKDd := hid (HKD2.out.keep bd)
                        obtain ⟨q1, q2⟩ := new_set wd4 32 (bcells (zeroB 32)) (bcells dm)
                        have K3 := hid (Blk.new wd4 32 (bcells (zeroB 32)))
                        have HKm := hid q2; have HWe := hid (HWd.out.keep q1); have HKbe := hid (HKbd.out.keep q1); have HKDe := hid (HKDd.out.keep q1)
                        have hz := HZ.out
                        have hkml : mm < KK.length := by rw [HM6.out.kn, HNL.out]; exact hmn
                        have hkmc : ((wd4.alloc (.cells (bcells (zeroB 32)) 32)).setRow wd4.heap.size (bcells dm)).cell? ⟨kb, mm, none⟩ = some (.bool (KK.getD mm false)) := HKbe.out.cell mm (by
                          rw [List.getElem?_toArray, List.getElem?_map, dropK_get hkml]
                          simp)
                        have hzm : ((wd4.alloc (.cells (bcells (zeroB 32)) 32)).setRow wd4.heap.size (bcells dm)).frozen? ⟨kb, mm, none⟩ = false := HKbe.out.frozen mm
                        clear bd q1 q2 HO3 hce HWl HKbl HKD2 HWd HKbd HKDd
                        have heq := HEQ.out
                        cases hkv : KK.getD mm false with
                        | false =>
                          rw [hkv] at hkmc HNx
                          rw [Bool.false_and] at HNx
                          clear hkv
                          go_wp2_with (first
                            | (refine wpList_store_blk rfl 32 _ _ rfl wd4.heap.size _ rfl rfl 32 _ K3.out HSZm.out HZ3m.out (bcells_oneCell _) ?_))
                          generalize (wd4.alloc (.cells (bcells (zeroB 32)) 32)).setRow wd4.heap.size (bcells dm) = we at HWe HKbe HKDe ⊢
                          have HWf := hid (HWe.out.chg1 (Chg.of_grown (L := [kb]) (grown_setCell we kb mm (.bool false)) (fun g' e => by cases e; simp)) HKF6.out HKw.out)
                          have HKbf := hid (show KeptB (we.setCell ⟨kb, mm, none⟩ (.bool false)) kb (dropK l wd dx (mm + 1) KK) from by rw [HNx.out]; exact kept_set HKbe.out false)
                          have HKDf := hid (HKDe.out.grown (grown_setCell we kb mm (.bool false)) (by simpa using hne))
                          go_roundw
                          case rel => exact ⟨mm + 1, by go_num, by omega, HWf, HKbf, HKDf⟩
                          case measure => simp [intOf]; omega
                        | true =>
                          rw [hkv] at hkmc HNx
                          rw [Bool.true_and] at HNx
                          clear hkv
                          go_wp2_with (first
                            | (refine wpList_store_blk rfl 32 _ _ rfl wd4.heap.size _ rfl rfl 32 _ K3.out HSZm.out HZ3m.out (bcells_oneCell _) ?_)
                            | (refine wpList_load_blk_g (by rfl) 32 (.tmp 23) rfl wd4.heap.size rfl 32 _ HKm.out _ _ Tryd.underlying32 HSZm.out ?_)
                            | (refine wpList_load_blk_g (by rfl) 32 (.tmp 20) rfl o2 rfl 32 _ HKDe.out _ _ Tryd.underlying32 HSZx.out ?_))
                          generalize (wd4.alloc (.cells (bcells (zeroB 32)) 32)).setRow wd4.heap.size (bcells dm) = we at HWe HKbe HKDe ⊢
                          have HWf := hid (HWe.out.chg1 (Chg.of_grown (L := [kb]) (grown_setCell we kb mm (.bool (!ev))) (fun g' e => by cases e; simp)) HKF6.out HKw.out)
                          have HKbf := hid (show KeptB (we.setCell ⟨kb, mm, none⟩ (.bool (!ev))) kb (dropK l wd dx (mm + 1) KK) from by rw [HNx.out]; exact kept_set HKbe.out (!ev))
                          have HKDf := hid (HKDe.out.grown (grown_setCell we kb mm (.bool (!ev))) (by simpa using hne))
                          go_roundw
                          case rel => exact ⟨mm + 1, by go_num, by omega, HWf, HKbf, HKDf⟩
                          case measure => simp [intOf]; omega
                      · obtain rfl : mm = i + 1 := by omega
                        have hmi' : ¬ ((i + 1 : Nat) : Int) ≤ (i : Int) := by omega
                        have HMl := hid (HM6.out.drop dx)
                        have HHo := hid (holds_calls HWl.out.st (by omega) (some ⟨bl, off, none⟩) c l (slb_more (HL.out.keepB HWl.out.below) HWl.out.below.size) n HNL.out (by omega) H40.out kb n (dropK l wd dx (i + 1) KK) (by rw [HMl.out.kn, HNL.out]) HKbl.out (fun p hp => by rw [HMl.out.bw]; exact HMl.out.dig p hp) (fun q z hz hk => by rw [HMl.out.bw] ; exact HMl.out.kept q z hz hk) (HWl.out.glob HG.out))
                        go_wp2_with fail
                        refine HHo.out.mono ?_
                        rintro _ w9 ⟨rfl, b9⟩
                        have HLn := hid (show HoldL w w9 wd rn kb l (i + 1) s m from ⟨F6, k6, (dropB bb dx), fl, (dropK l wd dx (i + 1) KK), HWl.out.keep b9, HMl.out, by omega, HKbl.out.keep b9, HKF6.out, HKw.out⟩)
                        clear b9 HHo
                        go_wp2_with fail
                        go_roundw
                        case rel => exact ⟨i + 1, by go_num, by omega, HLn⟩
                        case measure => simp [intOf]; omega
                  · have h3' : ¬ (z % 3 : Int) = 0 := h3
                    generalize z % 3 = zr at h3 h3' ⊢
                    clear hcz
                    have HHo := hid (holds_calls HW8.out.st (by omega) (some ⟨bl, off, none⟩) c l (slb_more (HL.out.keepB HW8.out.below) HW8.out.below.size) n HNL.out (by omega) H40.out kb n KK (by rw [HM6.out.kn, HNL.out]) HKb8.out (fun p hp => by rw [HM6.out.bw]; exact HM6.out.dig p hp) (fun q z hz hk => by rw [HM6.out.bw] ; exact HM6.out.kept q z hz hk) (HW8.out.glob HG.out))
                    go_wp2_with fail
                    refine HHo.out.mono ?_
                    rintro _ w9 ⟨rfl, b9⟩
                    have HLn := hid (show HoldL w w9 wd rn kb l (i + 1) s m from ⟨F6, k6, bb, f6, KK, HW8.out.keep b9, HM6.out, by omega, HKb8.out.keep b9, HKF6.out, HKw.out⟩)
                    clear b9 HHo
                    go_wp2_with fail
                    go_roundw
                    case rel => exact ⟨i + 1, by go_num, by omega, HLn⟩
                    case measure => simp [intOf]; omega
                · have hdl' : ¬ (i : Int) < (n2 : Int) := by omega
                  have HHo := hid (holds_calls HW8.out.st (by omega) (some ⟨bl, off, none⟩) c l (slb_more (HL.out.keepB HW8.out.below) HW8.out.below.size) n HNL.out (by omega) H40.out kb n KK (by rw [HM6.out.kn, HNL.out]) HKb8.out (fun p hp => by rw [HM6.out.bw]; exact HM6.out.dig p hp) (fun q z hz hk => by rw [HM6.out.bw] ; exact HM6.out.kept q z hz hk) (HW8.out.glob HG.out))
                  go_wp2_with fail
                  refine HHo.out.mono ?_
                  rintro _ w9 ⟨rfl, b9⟩
                  have HLn := hid (show HoldL w w9 wd rn kb l (i + 1) s m from ⟨F6, k6, bb, f6, KK, HW8.out.keep b9, HM6.out, by omega, HKb8.out.keep b9, HKF6.out, HKw.out⟩)
                  clear b9 HHo
                  go_wp2_with fail
                  go_roundw
                  case rel => exact ⟨i + 1, by go_num, by omega, HLn⟩
                  case measure => simp [intOf]; omega
            · subst c1 c2
              rw [show ((9 : Nat) : Int) = 9 from rfl]
              have hq := HST.out false
              rw [show decide (9 = 0) = false from rfl] at HM6
              clear HST
              go_wp2_with fail
              generalize w6.setCell ⟨kb, i, none⟩ (.bool false) = w7 at hq ⊢
              have HW7 := hid hq.1; have HKb7 := hid hq.2
              obtain ⟨us, hus⟩ : ∃ us, usedB (putB b d x).l = us := ⟨_, rfl⟩
              have HUs := hid (fun W (hb : Below w7.heap.size w7 W) => used_calls (HW7.out.st.keep hb))
              rw [hus] at HUs
              have e : us = was := by rw [← hus, c4, HWas.out]
              subst e
              have HCX := hid ((HW7.out.below.cell (p := ⟨bl, off + i, none⟩) hbl).trans HCX0.out)
              clear hq hck hzk hus
              refine wp_region_invG 188 () (hw16C s us) (fun _ _ W => Below w7.heap.size w7 W) (by kernel_rfl) (by kernel_rfl) (by exact Nat.le_refl 188) ?_ ?_ ?_
              · exact (Below.refl _ _).drew
              · intro i o f gh a W hi hf hdep hsame hcl hval hS
                rcases i with _ | _ | _ | _ | _ | _ | _ | _ | _ | _ | _ | _ | _ | _ | _ | _ | _ | _ | _ | _ | _ | _ | _ | _ | _ | _ | _ | _ | _ | _ | _ | _ | _ | _ | _ | _ | _ | _ | _ | i
                all_goals simp only [List.getElem?_cons_succ, List.getElem?_cons_zero, List.getElem?_nil, Option.some.injEq, reduceCtorEq] at hi
                all_goals subst hi
                · have E17 : a.tmps[17]? = some (.bool false) := (same_of hsame 17 (by rfl)).trans rfl
                  refine g_plain rfl ?_
                  exact does_value (w' := W) (v := .bool false) (by go_simp) ⟨(), .inr rfl, hS⟩
                · have E86 := hval 0 _ 86 rfl rfl (dep_of hdep 0 (by rfl))
                  unfold hw16C at E86
                  refine g_plain rfl ?_
                  exact does_value (w' := W) (v := .bool false) (by go_simp) ⟨(), .inr rfl, hS⟩
                · have EG := hval 1 _ 87 rfl rfl (dep_of hdep 1 (by rfl))
                  unfold hw16C at EG
                  exact g_skip rfl rfl rfl EG rfl ⟨(), .inr rfl, hS⟩
                · have EG := hval 1 _ 87 rfl rfl (dep_of hdep 1 (by rfl))
                  unfold hw16C at EG
                  exact g_skip rfl rfl rfl EG rfl ⟨(), .inr rfl, hS⟩
                · have EG := hval 1 _ 87 rfl rfl (dep_of hdep 1 (by rfl))
                  unfold hw16C at EG
                  exact g_skip rfl rfl rfl EG rfl ⟨(), .inr rfl, hS⟩
                · have EG := hval 4 _ 90 rfl rfl (dep_of hdep 4 (by rfl))
                  unfold hw16C at EG
                  exact g_skip_u rfl rfl rfl EG ⟨(), .inr rfl, hS⟩
                · have EG := hval 4 _ 90 rfl rfl (dep_of hdep 4 (by rfl))
                  unfold hw16C at EG
                  exact g_skip_u rfl rfl rfl EG ⟨(), .inr rfl, hS⟩
                · have EG := hval 4 _ 90 rfl rfl (dep_of hdep 4 (by rfl))
                  unfold hw16C at EG
                  exact g_skip_u rfl rfl rfl EG ⟨(), .inr rfl, hS⟩
                · have EG := hval 4 _ 90 rfl rfl (dep_of hdep 4 (by rfl))
                  unfold hw16C at EG
                  exact g_skip_u rfl rfl rfl EG ⟨(), .inr rfl, hS⟩
                · have EG := hval 4 _ 90 rfl rfl (dep_of hdep 4 (by rfl))
                  unfold hw16C at EG
                  exact g_skip_u rfl rfl rfl EG ⟨(), .inr rfl, hS⟩
                · have EG := hval 4 _ 90 rfl rfl (dep_of hdep 4 (by rfl))
                  unfold hw16C at EG
                  exact g_skip_u rfl rfl rfl EG ⟨(), .inr rfl, hS⟩
                · have EG := hval 4 _ 90 rfl rfl (dep_of hdep 4 (by rfl))
                  unfold hw16C at EG
                  exact g_skip_u rfl rfl rfl EG ⟨(), .inr rfl, hS⟩
                · have EG := hval 4 _ 90 rfl rfl (dep_of hdep 4 (by rfl))
                  unfold hw16C at EG
                  exact g_skip_u rfl rfl rfl EG ⟨(), .inr rfl, hS⟩
                · have EG := hval 4 _ 90 rfl rfl (dep_of hdep 4 (by rfl))
                  unfold hw16C at EG
                  exact g_skip_u rfl rfl rfl EG ⟨(), .inr rfl, hS⟩
                · have EG := hval 4 _ 90 rfl rfl (dep_of hdep 4 (by rfl))
                  unfold hw16C at EG
                  exact g_skip_u rfl rfl rfl EG ⟨(), .inr rfl, hS⟩
                · have EG := hval 1 _ 87 rfl rfl (dep_of hdep 1 (by rfl))
                  unfold hw16C at EG
                  exact g_skip rfl rfl rfl EG rfl ⟨(), .inr rfl, hS⟩
                · have E87 := hval 1 _ 87 rfl rfl (dep_of hdep 1 (by rfl))
                  unfold hw16C at E87
                  refine g_plain rfl ?_
                  exact does_value (w' := W) (v := .bool false) (by go_simp) ⟨(), .inr rfl, hS⟩
                · have E102 := hval 16 _ 102 rfl rfl (dep_of hdep 16 (by rfl))
                  unfold hw16C at E102
                  refine g_plain rfl ?_
                  exact does_value (w' := W) (v := .bool false) (by go_simp) ⟨(), .inr rfl, hS⟩
                · have EG := hval 17 _ 103 rfl rfl (dep_of hdep 17 (by rfl))
                  have E17 : a.tmps[17]? = some (.bool false) := (same_of hsame 17 (by rfl)).trans rfl
                  unfold hw16C at EG
                  refine g_want rfl rfl rfl EG ?_
                  exact does_value (w' := W) (v := .bool false) (by go_simp) ⟨(), .inr rfl, hS⟩
                · have EG := hval 17 _ 103 rfl rfl (dep_of hdep 17 (by rfl))
                  have E104 := hval 18 _ 104 rfl rfl (dep_of hdep 18 (by rfl))
                  unfold hw16C at EG E104
                  refine g_want rfl rfl rfl EG ?_
                  exact does_value (w' := W) (v := .bool true) (by go_simp) ⟨(), .inr rfl, hS⟩
                · have EG := hval 17 _ 103 rfl rfl (dep_of hdep 17 (by rfl))
                  have E105 := hval 19 _ 105 rfl rfl (dep_of hdep 19 (by rfl))
                  unfold hw16C at EG E105
                  refine g_want rfl rfl rfl EG ?_
                  exact does_value (w' := W) (v := .bool true) (by go_simp) ⟨(), .inr rfl, hS⟩
                · have EG := hval 20 _ 106 rfl rfl (dep_of hdep 20 (by rfl))
                  have E10 : a.tmps[10]? = some (.pointer (some ⟨s, 0, none⟩)) := (same_of hsame 10 (by rfl)).trans rfl
                  unfold hw16C at EG
                  refine g_want rfl rfl rfl EG ?_
                  exact does_value (w' := W) (v := .pointer (some ⟨s, 0, none⟩)) (by go_simp) ⟨(), .inr rfl, hS⟩
                · have EG := hval 20 _ 106 rfl rfl (dep_of hdep 20 (by rfl))
                  have E107 := hval 21 _ 107 rfl rfl (dep_of hdep 21 (by rfl))
                  unfold hw16C at EG E107
                  refine g_want rfl rfl rfl EG ?_
                  refine does_call 23 #[.pointer (some ⟨s, 0, none⟩)] (by go_simp) ((HUs.out W hS).mono ?_)
                  rintro _ _ ⟨rfl, rfl⟩
                  exact ⟨_, rfl, (), .inr rfl, hS⟩
                · have EG := hval 20 _ 106 rfl rfl (dep_of hdep 20 (by rfl))
                  have E16 : a.tmps[16]? = some (.int .i64 (us : Int)) := (same_of hsame 16 (by rfl)).trans rfl
                  unfold hw16C at EG
                  refine g_want rfl rfl rfl EG ?_
                  exact does_value (w' := W) (v := .int .i64 (us : Int)) (by go_simp) ⟨(), .inr rfl, hS⟩
                · have EG := hval 20 _ 106 rfl rfl (dep_of hdep 20 (by rfl))
                  have E108 := hval 22 _ 108 rfl rfl (dep_of hdep 22 (by rfl))
                  have E109 := hval 23 _ 109 rfl rfl (dep_of hdep 23 (by rfl))
                  unfold hw16C at EG E108 E109
                  refine g_want rfl rfl rfl EG ?_
                  exact does_value (w' := W) (v := .bool false) (by go_simp) ⟨(), .inr rfl, hS⟩
                · have EG := hval 17 _ 103 rfl rfl (dep_of hdep 17 (by rfl))
                  have E106 := hval 20 _ 106 rfl rfl (dep_of hdep 20 (by rfl))
                  have E110 := hval 24 _ 110 rfl rfl (dep_of hdep 24 (by rfl))
                  unfold hw16C at EG E106 E110
                  refine g_want rfl rfl rfl EG ?_
                  exact does_value (w' := W) (v := .bool false) (by go_simp) ⟨(), .inr rfl, hS⟩
                · have E103 := hval 17 _ 103 rfl rfl (dep_of hdep 17 (by rfl))
                  have E111 := hval 25 _ 111 rfl rfl (dep_of hdep 25 (by rfl))
                  unfold hw16C at E103 E111
                  refine g_plain rfl ?_
                  exact does_value (w' := W) (v := .bool false) (by go_simp) ⟨(), .inr rfl, hS⟩
                · have E112 := hval 26 _ 112 rfl rfl (dep_of hdep 26 (by rfl))
                  unfold hw16C at E112
                  refine g_plain rfl ?_
                  exact does_value (w' := W) (v := .bool false) (by go_simp) ⟨(), .inr rfl, hS⟩
                · have EG := hval 27 _ 113 rfl rfl (dep_of hdep 27 (by rfl))
                  have E18 : a.tmps[18]? = some (.int .i64 (9 : Int)) := (same_of hsame 18 (by rfl)).trans rfl
                  unfold hw16C at EG
                  refine g_want rfl rfl rfl EG ?_
                  exact does_value (w' := W) (v := .int .i64 (9 : Int)) (by go_simp) ⟨(), .inr rfl, hS⟩
                · have EG := hval 27 _ 113 rfl rfl (dep_of hdep 27 (by rfl))
                  have E114 := hval 28 _ 114 rfl rfl (dep_of hdep 28 (by rfl))
                  unfold hw16C at EG E114
                  refine g_want rfl rfl rfl EG ?_
                  exact does_value (w' := W) (v := .bool true) (by go_simp) ⟨(), .inr rfl, hS⟩
                · have EG := hval 27 _ 113 rfl rfl (dep_of hdep 27 (by rfl))
                  have E115 := hval 29 _ 115 rfl rfl (dep_of hdep 29 (by rfl))
                  unfold hw16C at EG E115
                  refine g_want rfl rfl rfl EG ?_
                  exact does_value (w' := W) (v := .bool true) (by go_simp) ⟨(), .inr rfl, hS⟩
                · have EG := hval 30 _ 116 rfl rfl (dep_of hdep 30 (by rfl))
                  have E18 : a.tmps[18]? = some (.int .i64 (9 : Int)) := (same_of hsame 18 (by rfl)).trans rfl
                  unfold hw16C at EG
                  refine g_want rfl rfl rfl EG ?_
                  exact does_value (w' := W) (v := .int .i64 (9 : Int)) (by go_simp) ⟨(), .inr rfl, hS⟩
                · have EG := hval 30 _ 116 rfl rfl (dep_of hdep 30 (by rfl))
                  have E117 := hval 31 _ 117 rfl rfl (dep_of hdep 31 (by rfl))
                  unfold hw16C at EG E117
                  refine g_want rfl rfl rfl EG ?_
                  exact does_value (w' := W) (v := .bool true) (by go_simp) ⟨(), .inr rfl, hS⟩
                · have EG := hval 27 _ 113 rfl rfl (dep_of hdep 27 (by rfl))
                  have E116 := hval 30 _ 116 rfl rfl (dep_of hdep 30 (by rfl))
                  have E118 := hval 32 _ 118 rfl rfl (dep_of hdep 32 (by rfl))
                  unfold hw16C at EG E116 E118
                  refine g_want rfl rfl rfl EG ?_
                  exact does_value (w' := W) (v := .bool true) (by go_simp) ⟨(), .inr rfl, hS⟩
                · have EG := hval 27 _ 113 rfl rfl (dep_of hdep 27 (by rfl))
                  have E119 := hval 33 _ 119 rfl rfl (dep_of hdep 33 (by rfl))
                  unfold hw16C at EG E119
                  refine g_want rfl rfl rfl EG ?_
                  exact does_value (w' := W) (v := .bool true) (by go_simp) ⟨(), .inr rfl, hS⟩
                · have EG := hval 34 _ 120 rfl rfl (dep_of hdep 34 (by rfl))
                  have E18 : a.tmps[18]? = some (.int .i64 (9 : Int)) := (same_of hsame 18 (by rfl)).trans rfl
                  unfold hw16C at EG
                  refine g_want rfl rfl rfl EG ?_
                  exact does_value (w' := W) (v := .int .i64 (9 : Int)) (by go_simp) ⟨(), .inr rfl, hS⟩
                · have EG := hval 34 _ 120 rfl rfl (dep_of hdep 34 (by rfl))
                  have E121 := hval 35 _ 121 rfl rfl (dep_of hdep 35 (by rfl))
                  unfold hw16C at EG E121
                  refine g_want rfl rfl rfl EG ?_
                  exact does_value (w' := W) (v := .bool false) (by go_simp) ⟨(), .inr rfl, hS⟩
                · have EG := hval 27 _ 113 rfl rfl (dep_of hdep 27 (by rfl))
                  have E120 := hval 34 _ 120 rfl rfl (dep_of hdep 34 (by rfl))
                  have E122 := hval 36 _ 122 rfl rfl (dep_of hdep 36 (by rfl))
                  unfold hw16C at EG E120 E122
                  refine g_want rfl rfl rfl EG ?_
                  exact does_value (w' := W) (v := .bool false) (by go_simp) ⟨(), .inr rfl, hS⟩
                · have E113 := hval 27 _ 113 rfl rfl (dep_of hdep 27 (by rfl))
                  have E123 := hval 37 _ 123 rfl rfl (dep_of hdep 37 (by rfl))
                  unfold hw16C at E113 E123
                  refine g_plain rfl ?_
                  exact does_value (w' := W) (v := .bool false) (by go_simp) ⟨(), .inr rfl, hS⟩
              · intro gh w8 hS
                have HW8 := hid (HW7.out.keep hS); have HKb8 := hid (HKb7.out.keep hS)
                simp only [putAll, hw16C, Nat.reduceAdd, Nat.zero_add, Act.put, List.setIfInBounds_toArray, List.set_cons_zero, List.set_cons_succ]
                clear hS HUs HCX HW7 HKb7
                obtain ⟨bb, hbb⟩ : ∃ bb, putB b d x = bb := ⟨_, rfl⟩
                rw [hbb] at HW8 HM6
                obtain ⟨KK, hKK⟩ : ∃ KK, K.set i false = KK := ⟨_, rfl⟩
                rw [hKK] at HKb8 HM6
                clear hbb hKK
                by_cases hdl : i < n2
                · have hdl' : (i : Int) < (n2 : Int) := by omega
                  obtain ⟨b2, off2, z, hA2, hzz, hcz⟩ := (HZs.out.keep HW8.out.below).at_ hdl
                  subst hA2
                  have HPk := hid (pick_calls z 3 w8 (by omega) (by omega))
                  have HZZ := hid hzz
                  clear hzz
                  go_wp2_with fail
                  refine HPk.out.mono ?_
                  rintro _ _ ⟨rfl, rfl⟩
                  by_cases h3 : z % 3 = 0
                  · rw [h3]
                    have e1 : IntKind.i64.wrap ((i : Int) + 1) = ((i + 1 : Nat) : Int) := by rw [IntWalk.i64_in _ (by omega)]; omega
                    obtain ⟨kk, hkk⟩ : ∃ kk : Nat, (kk : Int) = z % ((i + 1 : Nat) : Int) := ⟨(z % ((i + 1 : Nat) : Int)).toNat, by have := Int.emod_nonneg z (show ((i + 1 : Nat) : Int) ≠ 0 by omega); omega⟩
                    have hkki : kk ≤ i := by have := Int.emod_lt_of_pos z (show (0 : Int) < ((i + 1 : Nat) : Int) by omega); omega
                    have HPk2 := hid (pick_calls z ((i + 1 : Nat) : Int) w8 (by omega) (by omega))
                    rw [← hkk] at HPk2
                    clear h3 hkk HPk
                    go_wp2_with fail
                    refine HPk2.out.mono ?_
                    rintro _ _ ⟨rfl, rfl⟩
                    obtain ⟨bl3, off3, Ay, cy, y, hA3, -, hyi, hcy, hsy, hcyy, -⟩ := HL.out.at_ (k := kk) (by rw [HNL.out]; omega)
                    cases hA3
                    have hyl := H40.out y (List.mem_of_getElem? hyi)
                    have hkn : kk < n := by omega
                    have hkn' : (kk : Int) < (n : Int) := by omega
                    have hce := (HW8.out.below.cell (p := ⟨bl, off + kk, none⟩) hbl).trans hcy
                    have HO2 := hid (own_of_calls w.heap.size y.length cy Ay y (wd : Int) _ (hsy.keepB HW8.out.below) hcyy (HW8.out.glob HG.out) (by omega))
                    rw [show cutE (wd : Int) = 0 from by rw [cutE, if_neg (by omega)], show cutB (sha y) (wd : Int) = digB y wd from rfl] at HO2
                    have HDL2 := hid (digB_length y wd)
                    obtain ⟨dx, hdx⟩ : ∃ dx, digB y wd = dx := ⟨_, rfl⟩
                    rw [hdx] at HO2 HDL2
                    have HSZx := hid (show (Tryd.prog.info? 32).map (·.size) = some (bcells dx).size from by rw [bcells_size, HDL2.out]; kernel_rfl)
                    have HZ3x := hid (show (bcells (zeroB 32)).size = (bcells dx).size from by rw [bcells_size, bcells_size, HDL2.out]; rfl)
                    clear hcy hsy hyi hdx e1 HPk2
                    go_wp2_with fail
                    refine HO2.out.mono ?_
                    rintro _ wa ⟨rfl, ba⟩
                    have HWa := hid (HW8.out.keep ba); have HKba := hid (HKb8.out.keep ba)
                    obtain ⟨q1, q2⟩ := new_set wa 32 (bcells (zeroB 32)) (bcells dx)
                    have K3 := hid (Blk.new wa 32 (bcells (zeroB 32)))
                    have HKD2 := hid q2; have HWb := hid (HWa.out.keep q1); have HKbb := hid (HKba.out.keep q1)
                    have hF2 : wa.heap.size ∉ F6 := fun h => by have := HWa.out.st.lt _ h; omega
                    have hkbl := HKba.out.lt
                    have hz := HZ.out
                    clear ba q1 q2 HO2 hce HW8 HKb8 HWa HKba hcz
                    go_wp2_with (first
                      | (refine wpList_store_blk rfl 32 _ _ rfl wa.heap.size _ rfl rfl 32 _ K3.out HSZx.out HZ3x.out (bcells_oneCell _) ?_)
                      | (refine wpList_load_blk rfl 32 _ rfl wa.heap.size rfl 32 _ HKD2.out _ _ Tryd.underlying32 HSZx.out ?_))
                    clear hz K3 HZ3x
                    generalize (wa.alloc (.cells (bcells (zeroB 32)) 32)).setRow wa.heap.size (bcells dx) = wb at HWb HKD2 HKbb ⊢
                    have hne : kb ≠ wa.heap.size := by omega
                    generalize wa.heap.size = o2 at HKD2 hF2 hne ⊢
                    refine (drop_calls HWb.out.st dx HDL2.out).mono ?_
                    rintro _ wc ⟨rfl, ⟨fl, p1⟩, p2⟩
                    have HWc := hid (HWb.out.of p1 p2 (fun x hx => .inl hx)); have HKbc := hid (show KeptB wc kb (dropK l wd dx 0 KK) from by rw [dropK_zero]; exact HKbb.out.chg p2 HKF6.out); have HKD3 := hid (HKD2.out.chg p2 hF2)
                    clear p1 p2 HWb HKbb HKD2
                    go_wp2_with fail
                    go_loopw [22] (fun v22 wr => ∃ mm : Nat, v22 = .int .i64 (mm : Int) ∧ mm ≤ i + 1 ∧ Hid (LawB w wr F6 s m k6 (dropB bb dx) fl) ∧ Hid (KeptB wr kb (dropK l wd dx mm KK)) ∧ Hid (Blk wr o2 32 (bcells dx))) (fun v22 _ => i + 1 - (intOf v22).toNat)
                    case atStart => exact ⟨0, rfl, Nat.zero_le _, HWc, HKbc, HKD3⟩
                    case round =>
                      clear HWc HKbc HKD3
                      obtain ⟨mm, rfl, hmm, HWl, HKbl, HKD2⟩ := hrel
                      by_cases hmi : mm ≤ i
                      · have hmi' : (mm : Int) ≤ (i : Int) := by omega
                        obtain ⟨bl4, off4, Am, cm, ym, hA4, -, hym, hcm, hsm, hcmm, -⟩ := HL.out.at_ (k := mm) (by rw [HNL.out]; omega)
                        cases hA4
                        have hyml := H40.out ym (List.mem_of_getElem? hym)
                        have hmn : mm < n := by omega
                        have hmn' : (mm : Int) < (n : Int) := by omega
                        have hce := (HWl.out.below.cell (p := ⟨bl, off + mm, none⟩) hbl).trans hcm
                        have HO3 := hid (own_of_calls w.heap.size ym.length cm Am ym (wd : Int) _ (hsm.keepB HWl.out.below) hcmm (HWl.out.glob HG.out) (by omega))
                        rw [show cutE (wd : Int) = 0 from by rw [cutE, if_neg (by omega)], show cutB (sha ym) (wd : Int) = digB ym wd from rfl] at HO3
                        have HDL3 := hid (digB_length ym wd)
                        have HNx := hid (dropK_next (wd := wd) (K := KK) (d := dx) (by rw [HM6.out.kn, HNL.out]; exact hmn) hym)
                        obtain ⟨dm, hdm⟩ : ∃ dm, digB ym wd = dm := ⟨_, rfl⟩
                        rw [hdm] at HO3 HDL3 HNx
                        have HSZm := hid (show (Tryd.prog.info? 32).map (·.size) = some (bcells dm).size from by rw [bcells_size, HDL3.out]; kernel_rfl)
                        have HZ3m := hid (show (bcells (zeroB 32)).size = (bcells dm).size from by rw [bcells_size, bcells_size, HDL3.out]; rfl)
                        have HEQ := hid (fun W => run_equal_arr (P := Tryd.prog) 32 5 32 Tryd.underlying32 Tryd.underlying5 (by kernel_rfl) dm dx HDL3.out HDL2.out W)
                        have HEQ := hid (show ∀ W, (Op.equalIn 10000 32 (.agg (bcells dm)) (.agg (bcells dx))).run Tryd.prog W = .ok (dm == dx) W from HEQ.out)
                        obtain ⟨ev, hev⟩ : ∃ ev, (dm == dx) = ev := ⟨_, rfl⟩
                        rw [hev] at HEQ HNx
                        clear hcm hsm hym hdm hev
                        go_wp2_with fail
                        refine HO3.out.mono ?_
                        rintro _ wd4 ⟨rfl, bd⟩
                        have HWd := hid (HWl.out.keep bd); have HKbd := hid (HKbl.out.keep bd); have HKDd := hid (HKD2.out.keep bd)
                        obtain ⟨q1, q2⟩ := new_set wd4 32 (bcells (zeroB 32)) (bcells dm)
                        have K3 := hid (Blk.new wd4 32 (bcells (zeroB 32)))
                        have HKm := hid q2; have HWe := hid (HWd.out.keep q1); have HKbe := hid (HKbd.out.keep q1); have HKDe := hid (HKDd.out.keep q1)
                        have hz := HZ.out
                        have hkml : mm < KK.length := by rw [HM6.out.kn, HNL.out]; exact hmn
                        have hkmc : ((wd4.alloc (.cells (bcells (zeroB 32)) 32)).setRow wd4.heap.size (bcells dm)).cell? ⟨kb, mm, none⟩ = some (.bool (KK.getD mm false)) := HKbe.out.cell mm (by
                          rw [List.getElem?_toArray, List.getElem?_map, dropK_get hkml]
                          simp)
                        have hzm : ((wd4.alloc (.cells (bcells (zeroB 32)) 32)).setRow wd4.heap.size (bcells dm)).frozen? ⟨kb, mm, none⟩ = false := HKbe.out.frozen mm
                        clear bd q1 q2 HO3 hce HWl HKbl HKD2 HWd HKbd HKDd
                        have heq := HEQ.out
                        cases hkv : KK.getD mm false with
                        | false =>
                          rw [hkv] at hkmc HNx
                          rw [Bool.false_and] at HNx
                          clear hkv
                          go_wp2_with (first
                            | (refine wpList_store_blk rfl 32 _ _ rfl wd4.heap.size _ rfl rfl 32 _ K3.out HSZm.out HZ3m.out (bcells_oneCell _) ?_))
                          generalize (wd4.alloc (.cells (bcells (zeroB 32)) 32)).setRow wd4.heap.size (bcells dm) = we at HWe HKbe HKDe ⊢
                          have HWf := hid (HWe.out.chg1 (Chg.of_grown (L := [kb]) (grown_setCell we kb mm (.bool false)) (fun g' e => by cases e; simp)) HKF6.out HKw.out)
                          have HKbf := hid (show KeptB (we.setCell ⟨kb, mm, none⟩ (.bool false)) kb (dropK l wd dx (mm + 1) KK) from by rw [HNx.out]; exact kept_set HKbe.out false)
                          have HKDf := hid (HKDe.out.grown (grown_setCell we kb mm (.bool false)) (by simpa using hne))
                          go_roundw
                          case rel => exact ⟨mm + 1, by go_num, by omega, HWf, HKbf, HKDf⟩
                          case measure => simp [intOf]; omega
                        | true =>
                          rw [hkv] at hkmc HNx
                          rw [Bool.true_and] at HNx
                          clear hkv
                          go_wp2_with (first
                            | (refine wpList_store_blk rfl 32 _ _ rfl wd4.heap.size _ rfl rfl 32 _ K3.out HSZm.out HZ3m.out (bcells_oneCell _) ?_)
                            | (refine wpList_load_blk_g (by rfl) 32 (.tmp 23) rfl wd4.heap.size rfl 32 _ HKm.out _ _ Tryd.underlying32 HSZm.out ?_)
                            | (refine wpList_load_blk_g (by rfl) 32 (.tmp 20) rfl o2 rfl 32 _ HKDe.out _ _ Tryd.underlying32 HSZx.out ?_))
                          generalize (wd4.alloc (.cells (bcells (zeroB 32)) 32)).setRow wd4.heap.size (bcells dm) = we at HWe HKbe HKDe ⊢
                          have HWf := hid (HWe.out.chg1 (Chg.of_grown (L := [kb]) (grown_setCell we kb mm (.bool (!ev))) (fun g' e => by cases e; simp)) HKF6.out HKw.out)
                          have HKbf := hid (show KeptB (we.setCell ⟨kb, mm, none⟩ (.bool (!ev))) kb (dropK l wd dx (mm + 1) KK) from by rw [HNx.out]; exact kept_set HKbe.out (!ev))
                          have HKDf := hid (HKDe.out.grown (grown_setCell we kb mm (.bool (!ev))) (by simpa using hne))
                          go_roundw
                          case rel => exact ⟨mm + 1, by go_num, by omega, HWf, HKbf, HKDf⟩
                          case measure => simp [intOf]; omega
                      · obtain rfl : mm = i + 1 := by omega
                        have hmi' : ¬ ((i + 1 : Nat) : Int) ≤ (i : Int) := by omega
                        have HMl := hid (HM6.out.drop dx)
                        have HHo := hid (holds_calls HWl.out.st (by omega) (some ⟨bl, off, none⟩) c l (slb_more (HL.out.keepB HWl.out.below) HWl.out.below.size) n HNL.out (by omega) H40.out kb n (dropK l wd dx (i + 1) KK) (by rw [HMl.out.kn, HNL.out]) HKbl.out (fun p hp => by rw [HMl.out.bw]; exact HMl.out.dig p hp) (fun q z hz hk => by rw [HMl.out.bw] ; exact HMl.out.kept q z hz hk) (HWl.out.glob HG.out))
                        go_wp2_with fail
                        refine HHo.out.mono ?_
                        rintro _ w9 ⟨rfl, b9⟩
                        have HLn := hid (show HoldL w w9 wd rn kb l (i + 1) s m from ⟨F6, k6, (dropB bb dx), fl, (dropK l wd dx (i + 1) KK), HWl.out.keep b9, HMl.out, by omega, HKbl.out.keep b9, HKF6.out, HKw.out⟩)
                        clear b9 HHo
                        go_wp2_with fail
                        go_roundw
                        case rel => exact ⟨i + 1, by go_num, by omega, HLn⟩
                        case measure => simp [intOf]; omega
                  · have h3' : ¬ (z % 3 : Int) = 0 := h3
                    generalize z % 3 = zr at h3 h3' ⊢
                    clear hcz
                    have HHo := hid (holds_calls HW8.out.st (by omega) (some ⟨bl, off, none⟩) c l (slb_more (HL.out.keepB HW8.out.below) HW8.out.below.size) n HNL.out (by omega) H40.out kb n KK (by rw [HM6.out.kn, HNL.out]) HKb8.out (fun p hp => by rw [HM6.out.bw]; exact HM6.out.dig p hp) (fun q z hz hk => by rw [HM6.out.bw] ; exact HM6.out.kept q z hz hk) (HW8.out.glob HG.out))
                    go_wp2_with fail
                    refine HHo.out.mono ?_
                    rintro _ w9 ⟨rfl, b9⟩
                    have HLn := hid (show HoldL w w9 wd rn kb l (i + 1) s m from ⟨F6, k6, bb, f6, KK, HW8.out.keep b9, HM6.out, by omega, HKb8.out.keep b9, HKF6.out, HKw.out⟩)
                    clear b9 HHo
                    go_wp2_with fail
                    go_roundw
                    case rel => exact ⟨i + 1, by go_num, by omega, HLn⟩
                    case measure => simp [intOf]; omega
                · have hdl' : ¬ (i : Int) < (n2 : Int) := by omega
                  have HHo := hid (holds_calls HW8.out.st (by omega) (some ⟨bl, off, none⟩) c l (slb_more (HL.out.keepB HW8.out.below) HW8.out.below.size) n HNL.out (by omega) H40.out kb n KK (by rw [HM6.out.kn, HNL.out]) HKb8.out (fun p hp => by rw [HM6.out.bw]; exact HM6.out.dig p hp) (fun q z hz hk => by rw [HM6.out.bw] ; exact HM6.out.kept q z hz hk) (HW8.out.glob HG.out))
                  go_wp2_with fail
                  refine HHo.out.mono ?_
                  rintro _ w9 ⟨rfl, b9⟩
                  have HLn := hid (show HoldL w w9 wd rn kb l (i + 1) s m from ⟨F6, k6, bb, f6, KK, HW8.out.keep b9, HM6.out, by omega, HKb8.out.keep b9, HKF6.out, HKw.out⟩)
                  clear b9 HHo
                  go_wp2_with fail
                  go_roundw
                  case rel => exact ⟨i + 1, by go_num, by omega, HLn⟩
                  case measure => simp [intOf]; omega
            · subst c1 c2
              rw [show ((10 : Nat) : Int) = 10 from rfl]
              have hq := HST.out false
              rw [show decide (10 = 0) = false from rfl] at HM6
              clear HST
              go_wp2_with fail
              generalize w6.setCell ⟨kb, i, none⟩ (.bool false) = w7 at hq ⊢
              have HW7 := hid hq.1; have HKb7 := hid hq.2
              obtain ⟨us, hus⟩ : ∃ us, usedB (putB b d x).l = us := ⟨_, rfl⟩
              have HUs := hid (fun W (hb : Below w7.heap.size w7 W) => used_calls (HW7.out.st.keep hb))
              rw [hus] at HUs
              have e : us = was := by rw [← hus, c4, HWas.out]
              subst e
              have HCX := hid ((HW7.out.below.cell (p := ⟨bl, off + i, none⟩) hbl).trans HCX0.out)
              clear hq hck hzk hus
              refine wp_region_invG 188 () (hw16D s us) (fun _ _ W => Below w7.heap.size w7 W) (by kernel_rfl) (by kernel_rfl) (by exact Nat.le_refl 188) ?_ ?_ ?_
              · exact (Below.refl _ _).drew
              · intro i o f gh a W hi hf hdep hsame hcl hval hS
                rcases i with _ | _ | _ | _ | _ | _ | _ | _ | _ | _ | _ | _ | _ | _ | _ | _ | _ | _ | _ | _ | _ | _ | _ | _ | _ | _ | _ | _ | _ | _ | _ | _ | _ | _ | _ | _ | _ | _ | _ | i
                all_goals simp only [List.getElem?_cons_succ, List.getElem?_cons_zero, List.getElem?_nil, Option.some.injEq, reduceCtorEq] at hi
                all_goals subst hi
                · have E17 : a.tmps[17]? = some (.bool false) := (same_of hsame 17 (by rfl)).trans rfl
                  refine g_plain rfl ?_
                  exact does_value (w' := W) (v := .bool false) (by go_simp) ⟨(), .inr rfl, hS⟩
                · have E86 := hval 0 _ 86 rfl rfl (dep_of hdep 0 (by rfl))
                  unfold hw16D at E86
                  refine g_plain rfl ?_
                  exact does_value (w' := W) (v := .bool false) (by go_simp) ⟨(), .inr rfl, hS⟩
                · have EG := hval 1 _ 87 rfl rfl (dep_of hdep 1 (by rfl))
                  unfold hw16D at EG
                  exact g_skip rfl rfl rfl EG rfl ⟨(), .inr rfl, hS⟩
                · have EG := hval 1 _ 87 rfl rfl (dep_of hdep 1 (by rfl))
                  unfold hw16D at EG
                  exact g_skip rfl rfl rfl EG rfl ⟨(), .inr rfl, hS⟩
                · have EG := hval 1 _ 87 rfl rfl (dep_of hdep 1 (by rfl))
                  unfold hw16D at EG
                  exact g_skip rfl rfl rfl EG rfl ⟨(), .inr rfl, hS⟩
                · have EG := hval 4 _ 90 rfl rfl (dep_of hdep 4 (by rfl))
                  unfold hw16D at EG
                  exact g_skip_u rfl rfl rfl EG ⟨(), .inr rfl, hS⟩
                · have EG := hval 4 _ 90 rfl rfl (dep_of hdep 4 (by rfl))
                  unfold hw16D at EG
                  exact g_skip_u rfl rfl rfl EG ⟨(), .inr rfl, hS⟩
                · have EG := hval 4 _ 90 rfl rfl (dep_of hdep 4 (by rfl))
                  unfold hw16D at EG
                  exact g_skip_u rfl rfl rfl EG ⟨(), .inr rfl, hS⟩
                · have EG := hval 4 _ 90 rfl rfl (dep_of hdep 4 (by rfl))
                  unfold hw16D at EG
                  exact g_skip_u rfl rfl rfl EG ⟨(), .inr rfl, hS⟩
                · have EG := hval 4 _ 90 rfl rfl (dep_of hdep 4 (by rfl))
                  unfold hw16D at EG
                  exact g_skip_u rfl rfl rfl EG ⟨(), .inr rfl, hS⟩
                · have EG := hval 4 _ 90 rfl rfl (dep_of hdep 4 (by rfl))
                  unfold hw16D at EG
                  exact g_skip_u rfl rfl rfl EG ⟨(), .inr rfl, hS⟩
                · have EG := hval 4 _ 90 rfl rfl (dep_of hdep 4 (by rfl))
                  unfold hw16D at EG
                  exact g_skip_u rfl rfl rfl EG ⟨(), .inr rfl, hS⟩
                · have EG := hval 4 _ 90 rfl rfl (dep_of hdep 4 (by rfl))
                  unfold hw16D at EG
                  exact g_skip_u rfl rfl rfl EG ⟨(), .inr rfl, hS⟩
                · have EG := hval 4 _ 90 rfl rfl (dep_of hdep 4 (by rfl))
                  unfold hw16D at EG
                  exact g_skip_u rfl rfl rfl EG ⟨(), .inr rfl, hS⟩
                · have EG := hval 4 _ 90 rfl rfl (dep_of hdep 4 (by rfl))
                  unfold hw16D at EG
                  exact g_skip_u rfl rfl rfl EG ⟨(), .inr rfl, hS⟩
                · have EG := hval 1 _ 87 rfl rfl (dep_of hdep 1 (by rfl))
                  unfold hw16D at EG
                  exact g_skip rfl rfl rfl EG rfl ⟨(), .inr rfl, hS⟩
                · have E87 := hval 1 _ 87 rfl rfl (dep_of hdep 1 (by rfl))
                  unfold hw16D at E87
                  refine g_plain rfl ?_
                  exact does_value (w' := W) (v := .bool false) (by go_simp) ⟨(), .inr rfl, hS⟩
                · have E102 := hval 16 _ 102 rfl rfl (dep_of hdep 16 (by rfl))
                  unfold hw16D at E102
                  refine g_plain rfl ?_
                  exact does_value (w' := W) (v := .bool false) (by go_simp) ⟨(), .inr rfl, hS⟩
                · have EG := hval 17 _ 103 rfl rfl (dep_of hdep 17 (by rfl))
                  have E17 : a.tmps[17]? = some (.bool false) := (same_of hsame 17 (by rfl)).trans rfl
                  unfold hw16D at EG
                  refine g_want rfl rfl rfl EG ?_
                  exact does_value (w' := W) (v := .bool false) (by go_simp) ⟨(), .inr rfl, hS⟩
                · have EG := hval 17 _ 103 rfl rfl (dep_of hdep 17 (by rfl))
                  have E104 := hval 18 _ 104 rfl rfl (dep_of hdep 18 (by rfl))
                  unfold hw16D at EG E104
                  refine g_want rfl rfl rfl EG ?_
                  exact does_value (w' := W) (v := .bool true) (by go_simp) ⟨(), .inr rfl, hS⟩
                · have EG := hval 17 _ 103 rfl rfl (dep_of hdep 17 (by rfl))
                  have E105 := hval 19 _ 105 rfl rfl (dep_of hdep 19 (by rfl))
                  unfold hw16D at EG E105
                  refine g_want rfl rfl rfl EG ?_
                  exact does_value (w' := W) (v := .bool true) (by go_simp) ⟨(), .inr rfl, hS⟩
                · have EG := hval 20 _ 106 rfl rfl (dep_of hdep 20 (by rfl))
                  have E10 : a.tmps[10]? = some (.pointer (some ⟨s, 0, none⟩)) := (same_of hsame 10 (by rfl)).trans rfl
                  unfold hw16D at EG
                  refine g_want rfl rfl rfl EG ?_
                  exact does_value (w' := W) (v := .pointer (some ⟨s, 0, none⟩)) (by go_simp) ⟨(), .inr rfl, hS⟩
                · have EG := hval 20 _ 106 rfl rfl (dep_of hdep 20 (by rfl))
                  have E107 := hval 21 _ 107 rfl rfl (dep_of hdep 21 (by rfl))
                  unfold hw16D at EG E107
                  refine g_want rfl rfl rfl EG ?_
                  refine does_call 23 #[.pointer (some ⟨s, 0, none⟩)] (by go_simp) ((HUs.out W hS).mono ?_)
                  rintro _ _ ⟨rfl, rfl⟩
                  exact ⟨_, rfl, (), .inr rfl, hS⟩
                · have EG := hval 20 _ 106 rfl rfl (dep_of hdep 20 (by rfl))
                  have E16 : a.tmps[16]? = some (.int .i64 (us : Int)) := (same_of hsame 16 (by rfl)).trans rfl
                  unfold hw16D at EG
                  refine g_want rfl rfl rfl EG ?_
                  exact does_value (w' := W) (v := .int .i64 (us : Int)) (by go_simp) ⟨(), .inr rfl, hS⟩
                · have EG := hval 20 _ 106 rfl rfl (dep_of hdep 20 (by rfl))
                  have E108 := hval 22 _ 108 rfl rfl (dep_of hdep 22 (by rfl))
                  have E109 := hval 23 _ 109 rfl rfl (dep_of hdep 23 (by rfl))
                  unfold hw16D at EG E108 E109
                  refine g_want rfl rfl rfl EG ?_
                  exact does_value (w' := W) (v := .bool false) (by go_simp) ⟨(), .inr rfl, hS⟩
                · have EG := hval 17 _ 103 rfl rfl (dep_of hdep 17 (by rfl))
                  have E106 := hval 20 _ 106 rfl rfl (dep_of hdep 20 (by rfl))
                  have E110 := hval 24 _ 110 rfl rfl (dep_of hdep 24 (by rfl))
                  unfold hw16D at EG E106 E110
                  refine g_want rfl rfl rfl EG ?_
                  exact does_value (w' := W) (v := .bool false) (by go_simp) ⟨(), .inr rfl, hS⟩
                · have E103 := hval 17 _ 103 rfl rfl (dep_of hdep 17 (by rfl))
                  have E111 := hval 25 _ 111 rfl rfl (dep_of hdep 25 (by rfl))
                  unfold hw16D at E103 E111
                  refine g_plain rfl ?_
                  exact does_value (w' := W) (v := .bool false) (by go_simp) ⟨(), .inr rfl, hS⟩
                · have E112 := hval 26 _ 112 rfl rfl (dep_of hdep 26 (by rfl))
                  unfold hw16D at E112
                  refine g_plain rfl ?_
                  exact does_value (w' := W) (v := .bool false) (by go_simp) ⟨(), .inr rfl, hS⟩
                · have EG := hval 27 _ 113 rfl rfl (dep_of hdep 27 (by rfl))
                  have E18 : a.tmps[18]? = some (.int .i64 (10 : Int)) := (same_of hsame 18 (by rfl)).trans rfl
                  unfold hw16D at EG
                  refine g_want rfl rfl rfl EG ?_
                  exact does_value (w' := W) (v := .int .i64 (10 : Int)) (by go_simp) ⟨(), .inr rfl, hS⟩
                · have EG := hval 27 _ 113 rfl rfl (dep_of hdep 27 (by rfl))
                  have E114 := hval 28 _ 114 rfl rfl (dep_of hdep 28 (by rfl))
                  unfold hw16D at EG E114
                  refine g_want rfl rfl rfl EG ?_
                  exact does_value (w' := W) (v := .bool true) (by go_simp) ⟨(), .inr rfl, hS⟩
                · have EG := hval 27 _ 113 rfl rfl (dep_of hdep 27 (by rfl))
                  have E115 := hval 29 _ 115 rfl rfl (dep_of hdep 29 (by rfl))
                  unfold hw16D at EG E115
                  refine g_want rfl rfl rfl EG ?_
                  exact does_value (w' := W) (v := .bool true) (by go_simp) ⟨(), .inr rfl, hS⟩
                · have EG := hval 30 _ 116 rfl rfl (dep_of hdep 30 (by rfl))
                  have E18 : a.tmps[18]? = some (.int .i64 (10 : Int)) := (same_of hsame 18 (by rfl)).trans rfl
                  unfold hw16D at EG
                  refine g_want rfl rfl rfl EG ?_
                  exact does_value (w' := W) (v := .int .i64 (10 : Int)) (by go_simp) ⟨(), .inr rfl, hS⟩
                · have EG := hval 30 _ 116 rfl rfl (dep_of hdep 30 (by rfl))
                  have E117 := hval 31 _ 117 rfl rfl (dep_of hdep 31 (by rfl))
                  unfold hw16D at EG E117
                  refine g_want rfl rfl rfl EG ?_
                  exact does_value (w' := W) (v := .bool false) (by go_simp) ⟨(), .inr rfl, hS⟩
                · have EG := hval 27 _ 113 rfl rfl (dep_of hdep 27 (by rfl))
                  have E116 := hval 30 _ 116 rfl rfl (dep_of hdep 30 (by rfl))
                  have E118 := hval 32 _ 118 rfl rfl (dep_of hdep 32 (by rfl))
                  unfold hw16D at EG E116 E118
                  refine g_want rfl rfl rfl EG ?_
                  exact does_value (w' := W) (v := .bool false) (by go_simp) ⟨(), .inr rfl, hS⟩
                · have EG := hval 27 _ 113 rfl rfl (dep_of hdep 27 (by rfl))
                  have E119 := hval 33 _ 119 rfl rfl (dep_of hdep 33 (by rfl))
                  unfold hw16D at EG E119
                  refine g_want rfl rfl rfl EG ?_
                  exact does_value (w' := W) (v := .bool false) (by go_simp) ⟨(), .inr rfl, hS⟩
                · have EG := hval 34 _ 120 rfl rfl (dep_of hdep 34 (by rfl))
                  unfold hw16D at EG
                  exact g_skip rfl rfl rfl EG rfl ⟨(), .inr rfl, hS⟩
                · have EG := hval 34 _ 120 rfl rfl (dep_of hdep 34 (by rfl))
                  unfold hw16D at EG
                  exact g_skip rfl rfl rfl EG rfl ⟨(), .inr rfl, hS⟩
                · have EG := hval 27 _ 113 rfl rfl (dep_of hdep 27 (by rfl))
                  have E120 := hval 34 _ 120 rfl rfl (dep_of hdep 34 (by rfl))
                  unfold hw16D at EG E120
                  refine g_want rfl rfl rfl EG ?_
                  exact does_value (w' := W) (v := .bool false) (by go_simp) ⟨(), .inr rfl, hS⟩
                · have E113 := hval 27 _ 113 rfl rfl (dep_of hdep 27 (by rfl))
                  have E123 := hval 37 _ 123 rfl rfl (dep_of hdep 37 (by rfl))
                  unfold hw16D at E113 E123
                  refine g_plain rfl ?_
                  exact does_value (w' := W) (v := .bool false) (by go_simp) ⟨(), .inr rfl, hS⟩
              · intro gh w8 hS
                have HW8 := hid (HW7.out.keep hS); have HKb8 := hid (HKb7.out.keep hS)
                simp only [putAll, hw16D, Nat.reduceAdd, Nat.zero_add, Act.put, List.setIfInBounds_toArray, List.set_cons_zero, List.set_cons_succ]
                clear hS HUs HCX HW7 HKb7
                obtain ⟨bb, hbb⟩ : ∃ bb, putB b d x = bb := ⟨_, rfl⟩
                rw [hbb] at HW8 HM6
                obtain ⟨KK, hKK⟩ : ∃ KK, K.set i false = KK := ⟨_, rfl⟩
                rw [hKK] at HKb8 HM6
                clear hbb hKK
                by_cases hdl : i < n2
                · have hdl' : (i : Int) < (n2 : Int) := by omega
                  obtain ⟨b2, off2, z, hA2, hzz, hcz⟩ := (HZs.out.keep HW8.out.below).at_ hdl
                  subst hA2
                  have HPk := hid (pick_calls z 3 w8 (by omega) (by omega))
                  have HZZ := hid hzz
                  clear hzz
                  go_wp2_with fail
                  refine HPk.out.mono ?_
                  rintro _ _ ⟨rfl, rfl⟩
                  by_cases h3 : z % 3 = 0
                  · rw [h3]
                    have e1 : IntKind.i64.wrap ((i : Int) + 1) = ((i + 1 : Nat) : Int) := by rw [IntWalk.i64_in _ (by omega)]; omega
                    obtain ⟨kk, hkk⟩ : ∃ kk : Nat, (kk : Int) = z % ((i + 1 : Nat) : Int) := ⟨(z % ((i + 1 : Nat) : Int)).toNat, by have := Int.emod_nonneg z (show ((i + 1 : Nat) : Int) ≠ 0 by omega); omega⟩
                    have hkki : kk ≤ i := by have := Int.emod_lt_of_pos z (show (0 : Int) < ((i + 1 : Nat) : Int) by omega); omega
                    have HPk2 := hid (pick_calls z ((i + 1 : Nat) : Int) w8 (by omega) (by omega))
                    rw [← hkk] at HPk2
                    clear h3 hkk HPk
                    go_wp2_with fail
                    refine HPk2.out.mono ?_
                    rintro _ _ ⟨rfl, rfl⟩
                    obtain ⟨bl3, off3, Ay, cy, y, hA3, -, hyi, hcy, hsy, hcyy, -⟩ := HL.out.at_ (k := kk) (by rw [HNL.out]; omega)
                    cases hA3
                    have hyl := H40.out y (List.mem_of_getElem? hyi)
                    have hkn : kk < n := by omega
                    have hkn' : (kk : Int) < (n : Int) := by omega
                    have hce := (HW8.out.below.cell (p := ⟨bl, off + kk, none⟩) hbl).trans hcy
                    have HO2 := hid (own_of_calls w.heap.size y.length cy Ay y (wd : Int) _ (hsy.keepB HW8.out.below) hcyy (HW8.out.glob HG.out) (by omega))
                    rw [show cutE (wd : Int) = 0 from by rw [cutE, if_neg (by omega)], show cutB (sha y) (wd : Int) = digB y wd from rfl] at HO2
                    have HDL2 := hid (digB_length y wd)
                    obtain ⟨dx, hdx⟩ : ∃ dx, digB y wd = dx := ⟨_, rfl⟩
                    rw [hdx] at HO2 HDL2
                    have HSZx := hid (show (Tryd.prog.info? 32).map (·.size) = some (bcells dx).size from by rw [bcells_size, HDL2.out]; kernel_rfl)
                    have HZ3x := hid (show (bcells (zeroB 32)).size = (bcells dx).size from by rw [bcells_size, bcells_size, HDL2.out]; rfl)
                    clear hcy hsy hyi hdx e1 HPk2
                    go_wp2_with fail
                    refine HO2.out.mono ?_
                    rintro _ wa ⟨rfl, ba⟩
                    have HWa := hid (HW8.out.keep ba); have HKba := hid (HKb8.out.keep ba)
                    obtain ⟨q1, q2⟩ := new_set wa 32 (bcells (zeroB 32)) (bcells dx)
                    have K3 := hid (Blk.new wa 32 (bcells (zeroB 32)))
                    have HKD2 := hid q2; have HWb := hid (HWa.out.keep q1); have HKbb := hid (HKba.out.keep q1)
                    have hF2 : wa.heap.size ∉ F6 := fun h => by have := HWa.out.st.lt _ h; omega
                    have hkbl := HKba.out.lt
                    have hz := HZ.out
                    clear ba q1 q2 HO2 hce HW8 HKb8 HWa HKba hcz
                    go_wp2_with (first
                      | (refine wpList_store_blk rfl 32 _ _ rfl wa.heap.size _ rfl rfl 32 _ K3.out HSZx.out HZ3x.out (bcells_oneCell _) ?_)
                      | (refine wpList_load_blk rfl 32 _ rfl wa.heap.size rfl 32 _ HKD2.out _ _ Tryd.underlying32 HSZx.out ?_))
                    clear hz K3 HZ3x
                    generalize (wa.alloc (.cells (bcells (zeroB 32)) 32)).setRow wa.heap.size (bcells dx) = wb at HWb HKD2 HKbb ⊢
                    have hne : kb ≠ wa.heap.size := by omega
                    generalize wa.heap.size = o2 at HKD2 hF2 hne ⊢
                    refine (drop_calls HWb.out.st dx HDL2.out).mono ?_
                    rintro _ wc ⟨rfl, ⟨fl, p1⟩, p2⟩
                    have HWc := hid (HWb.out.of p1 p2 (fun x hx => .inl hx)); have HKbc := hid (show KeptB wc kb (dropK l wd dx 0 KK) from by rw [dropK_zero]; exact HKbb.out.chg p2 HKF6.out); have HKD3 := hid (HKD2.out.chg p2 hF2)
                    clear p1 p2 HWb HKbb HKD2
                    go_wp2_with fail
                    go_loopw [22] (fun v22 wr => ∃ mm : Nat, v22 = .int .i64 (mm : Int) ∧ mm ≤ i + 1 ∧ Hid (LawB w wr F6 s m k6 (dropB bb dx) fl) ∧ Hid (KeptB wr kb (dropK l wd dx mm KK)) ∧ Hid (Blk wr o2 32 (bcells dx))) (fun v22 _ => i + 1 - (intOf v22).toNat)
                    case atStart => exact ⟨0, rfl, Nat.zero_le _, HWc, HKbc, HKD3⟩
                    case round =>
                      clear HWc HKbc HKD3
                      obtain ⟨mm, rfl, hmm, HWl, HKbl, HKD2⟩ := hrel
                      by_cases hmi : mm ≤ i
                      · have hmi' : (mm : Int) ≤ (i : Int) := by omega
                        obtain ⟨bl4, off4, Am, cm, ym, hA4, -, hym, hcm, hsm, hcmm, -⟩ := HL.out.at_ (k := mm) (by rw [HNL.out]; omega)
                        cases hA4
                        have hyml := H40.out ym (List.mem_of_getElem? hym)
                        have hmn : mm < n := by omega
                        have hmn' : (mm : Int) < (n : Int) := by omega
                        have hce := (HWl.out.below.cell (p := ⟨bl, off + mm, none⟩) hbl).trans hcm
                        have HO3 := hid (own_of_calls w.heap.size ym.length cm Am ym (wd : Int) _ (hsm.keepB HWl.out.below) hcmm (HWl.out.glob HG.out) (by omega))
                        rw [show cutE (wd : Int) = 0 from by rw [cutE, if_neg (by omega)], show cutB (sha ym) (wd : Int) = digB ym wd from rfl] at HO3
                        have HDL3 := hid (digB_length ym wd)
                        have HNx := hid (dropK_next (wd := wd) (K := KK) (d := dx) (by rw [HM6.out.kn, HNL.out]; exact hmn) hym)
                        obtain ⟨dm, hdm⟩ : ∃ dm, digB ym wd = dm := ⟨_, rfl⟩
                        rw [hdm] at HO3 HDL3 HNx
                        have HSZm := hid (show (Tryd.prog.info? 32).map (·.size) = some (bcells dm).size from by rw [bcells_size, HDL3.out]; kernel_rfl)
                        have HZ3m := hid (show (bcells (zeroB 32)).size = (bcells dm).size from by rw [bcells_size, bcells_size, HDL3.out]; rfl)
                        have HEQ := hid (fun W => run_equal_arr (P := Tryd.prog) 32 5 32 Tryd.underlying32 Tryd.underlying5 (by kernel_rfl) dm dx HDL3.out HDL2.out W)
                        have HEQ := hid (show ∀ W, (Op.equalIn 10000 32 (.agg (bcells dm)) (.agg (bcells dx))).run Tryd.prog W = .ok (dm == dx) W from HEQ.out)
                        obtain ⟨ev, hev⟩ : ∃ ev, (dm == dx) = ev := ⟨_, rfl⟩
                        rw [hev] at HEQ HNx
                        clear hcm hsm hym hdm hev
                        go_wp2_with fail
                        refine HO3.out.mono ?_
                        rintro _ wd4 ⟨rfl, bd⟩
                        have HWd := hid (HWl.out.keep bd); have HKbd := hid (HKbl.out.keep bd); have HKDd := hid (HKD2.out.keep bd)
                        obtain ⟨q1, q2⟩ := new_set wd4 32 (bcells (zeroB 32)) (bcells dm)
                        have K3 := hid (Blk.new wd4 32 (bcells (zeroB 32)))
                        have HKm := hid q2; have HWe := hid (HWd.out.keep q1); have HKbe := hid (HKbd.out.keep q1); have HKDe := hid (HKDd.out.keep q1)
                        have hz := HZ.out
                        have hkml : mm < KK.length := by rw [HM6.out.kn, HNL.out]; exact hmn
                        have hkmc : ((wd4.alloc (.cells (bcells (zeroB 32)) 32)).setRow wd4.heap.size (bcells dm)).cell? ⟨kb, mm, none⟩ = some (.bool (KK.getD mm false)) := HKbe.out.cell mm (by
                          rw [List.getElem?_toArray, List.getElem?_map, dropK_get hkml]
                          simp)
                        have hzm : ((wd4.alloc (.cells (bcells (zeroB 32)) 32)).setRow wd4.heap.size (bcells dm)).frozen? ⟨kb, mm, none⟩ = false := HKbe.out.frozen mm
                        clear bd q1 q2 HO3 hce HWl HKbl HKD2 HWd HKbd HKDd
                        have heq := HEQ.out
                        cases hkv : KK.getD mm false with
                        | false =>
                          rw [hkv] at hkmc HNx
                          rw [Bool.false_and] at HNx
                          clear hkv
                          go_wp2_with (first
                            | (refine wpList_store_blk rfl 32 _ _ rfl wd4.heap.size _ rfl rfl 32 _ K3.out HSZm.out HZ3m.out (bcells_oneCell _) ?_))
                          generalize (wd4.alloc (.cells (bcells (zeroB 32)) 32)).setRow wd4.heap.size (bcells dm) = we at HWe HKbe HKDe ⊢
                          have HWf := hid (HWe.out.chg1 (Chg.of_grown (L := [kb]) (grown_setCell we kb mm (.bool false)) (fun g' e => by cases e; simp)) HKF6.out HKw.out)
                          have HKbf := hid (show KeptB (we.setCell ⟨kb, mm, none⟩ (.bool false)) kb (dropK l wd dx (mm + 1) KK) from by rw [HNx.out]; exact kept_set HKbe.out false)
                          have HKDf := hid (HKDe.out.grown (grown_setCell we kb mm (.bool false)) (by simpa using hne))
                          go_roundw
                          case rel => exact ⟨mm + 1, by go_num, by omega, HWf, HKbf, HKDf⟩
                          case measure => simp [intOf]; omega
                        | true =>
                          rw [hkv] at hkmc HNx
                          rw [Bool.true_and] at HNx
                          clear hkv
                          go_wp2_with (first
                            | (refine wpList_store_blk rfl 32 _ _ rfl wd4.heap.size _ rfl rfl 32 _ K3.out HSZm.out HZ3m.out (bcells_oneCell _) ?_)
                            | (refine wpList_load_blk_g (by rfl) 32 (.tmp 23) rfl wd4.heap.size rfl 32 _ HKm.out _ _ Tryd.underlying32 HSZm.out ?_)
                            | (refine wpList_load_blk_g (by rfl) 32 (.tmp 20) rfl o2 rfl 32 _ HKDe.out _ _ Tryd.underlying32 HSZx.out ?_))
                          generalize (wd4.alloc (.cells (bcells (zeroB 32)) 32)).setRow wd4.heap.size (bcells dm) = we at HWe HKbe HKDe ⊢
                          have HWf := hid (HWe.out.chg1 (Chg.of_grown (L := [kb]) (grown_setCell we kb mm (.bool (!ev))) (fun g' e => by cases e; simp)) HKF6.out HKw.out)
                          have HKbf := hid (show KeptB (we.setCell ⟨kb, mm, none⟩ (.bool (!ev))) kb (dropK l wd dx (mm + 1) KK) from by rw [HNx.out]; exact kept_set HKbe.out (!ev))
                          have HKDf := hid (HKDe.out.grown (grown_setCell we kb mm (.bool (!ev))) (by simpa using hne))
                          go_roundw
                          case rel => exact ⟨mm + 1, by go_num, by omega, HWf, HKbf, HKDf⟩
                          case measure => simp [intOf]; omega
                      · obtain rfl : mm = i + 1 := by omega
                        have hmi' : ¬ ((i + 1 : Nat) : Int) ≤ (i : Int) := by omega
                        have HMl := hid (HM6.out.drop dx)
                        have HHo := hid (holds_calls HWl.out.st (by omega) (some ⟨bl, off, none⟩) c l (slb_more (HL.out.keepB HWl.out.below) HWl.out.below.size) n HNL.out (by omega) H40.out kb n (dropK l wd dx (i + 1) KK) (by rw [HMl.out.kn, HNL.out]) HKbl.out (fun p hp => by rw [HMl.out.bw]; exact HMl.out.dig p hp) (fun q z hz hk => by rw [HMl.out.bw] ; exact HMl.out.kept q z hz hk) (HWl.out.glob HG.out))
                        go_wp2_with fail
                        refine HHo.out.mono ?_
                        rintro _ w9 ⟨rfl, b9⟩
                        have HLn := hid (show HoldL w w9 wd rn kb l (i + 1) s m from ⟨F6, k6, (dropB bb dx), fl, (dropK l wd dx (i + 1) KK), HWl.out.keep b9, HMl.out, by omega, HKbl.out.keep b9, HKF6.out, HKw.out⟩)
                        clear b9 HHo
                        go_wp2_with fail
                        go_roundw
                        case rel => exact ⟨i + 1, by go_num, by omega, HLn⟩
                        case measure => simp [intOf]; omega
                  · have h3' : ¬ (z % 3 : Int) = 0 := h3
                    generalize z % 3 = zr at h3 h3' ⊢
                    clear hcz
                    have HHo := hid (holds_calls HW8.out.st (by omega) (some ⟨bl, off, none⟩) c l (slb_more (HL.out.keepB HW8.out.below) HW8.out.below.size) n HNL.out (by omega) H40.out kb n KK (by rw [HM6.out.kn, HNL.out]) HKb8.out (fun p hp => by rw [HM6.out.bw]; exact HM6.out.dig p hp) (fun q z hz hk => by rw [HM6.out.bw] ; exact HM6.out.kept q z hz hk) (HW8.out.glob HG.out))
                    go_wp2_with fail
                    refine HHo.out.mono ?_
                    rintro _ w9 ⟨rfl, b9⟩
                    have HLn := hid (show HoldL w w9 wd rn kb l (i + 1) s m from ⟨F6, k6, bb, f6, KK, HW8.out.keep b9, HM6.out, by omega, HKb8.out.keep b9, HKF6.out, HKw.out⟩)
                    clear b9 HHo
                    go_wp2_with fail
                    go_roundw
                    case rel => exact ⟨i + 1, by go_num, by omega, HLn⟩
                    case measure => simp [intOf]; omega
                · have hdl' : ¬ (i : Int) < (n2 : Int) := by omega
                  have HHo := hid (holds_calls HW8.out.st (by omega) (some ⟨bl, off, none⟩) c l (slb_more (HL.out.keepB HW8.out.below) HW8.out.below.size) n HNL.out (by omega) H40.out kb n KK (by rw [HM6.out.kn, HNL.out]) HKb8.out (fun p hp => by rw [HM6.out.bw]; exact HM6.out.dig p hp) (fun q z hz hk => by rw [HM6.out.bw] ; exact HM6.out.kept q z hz hk) (HW8.out.glob HG.out))
                  go_wp2_with fail
                  refine HHo.out.mono ?_
                  rintro _ w9 ⟨rfl, b9⟩
                  have HLn := hid (show HoldL w w9 wd rn kb l (i + 1) s m from ⟨F6, k6, bb, f6, KK, HW8.out.keep b9, HM6.out, by omega, HKb8.out.keep b9, HKF6.out, HKw.out⟩)
                  clear b9 HHo
                  go_wp2_with fail
                  go_roundw
                  case rel => exact ⟨i + 1, by go_num, by omega, HLn⟩
                  case measure => simp [intOf]; omega
        · obtain rfl : i = n := by omega
          have HBe := hid HW.out.below
          go_wp2_with fail
          go_ret
          exact ⟨rfl, HBe.out⟩
end Go.Proofs.YtoogaapjdlhpbaaDoor
