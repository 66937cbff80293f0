/- Contract: a stream's digest. -/
import Derived.Test.YtgacdimjbpkgoaaDoorOwnWrite
import Derived.Test.YtgacdimjbpkgoaaDoorTail
namespace Go.Proofs.YtgacdimjbpkgoaaDoor
open Go.RowKit Crc

theorem infoTail : (Tryd.prog.info? 122).map (fun i => (i.zero, i.size)) = some (some (.agg (bcells (zeroB 128))), 128) := by kernel_rfl
theorem bcells_part (l : List UInt8) : bcells l = part [] (l.map bv) [] := (part_whole _).symm

set_option maxHeartbeats 4000000 in
set_option maxRecDepth 100000 in
theorem digest_calls (bs : List UInt8) (s : St) (rest : List UInt8) (hK : Kept bs s rest) (g off : Nat) (t : TypeId) (pre : List Value) (hoff : pre.length = off) (w : World)
    (hG : Glob w) (hb : Blk w g t (part pre (strm s rest bs.length) [])) (hn : bs.length ≤ 1099511627776) :
    Calls Tryd.prog 54 #[.pointer (some ⟨g, off, none⟩)] w fun e w' => e = .returned (.agg (bcells (sha bs))) ∧ Below w.heap.size w w' := by
  have HO := hid hoff; clear hoff
  have hz1 := (zero_of_info info26).1
  have hz2 := (zero_of_info infoW8).1
  have hz3 := (zero_of_info infoTail).1
  have lg := hb.lt
  have k2 := Blk.new w 24 (bcells (zeroB 32))
  have b2 := below_new w (.cells (bcells (zeroB 32)) 24)
  have k3 := Blk.new (w.alloc (.cells (bcells (zeroB 32)) 24)) 95 (rcells (zeroW 8))
  rw [size_new] at k3
  have hb2 := (hb.keep b2)
  rw [strm_words] at hb2
  have EC : Hid ((Tryd.prog.info? 95).map (·.size) = some (rcells (stL s)).size) := (zero_of_info infoW8).2
  have KK := hid hK; have HB2 := hid hb2; have K3 := hid k3; have HB := hid hb; have HG := hid hG; have K2 := hid k2; have B2 := hid b2
  clear hK hb2 k3 hb hG k2 b2
  go_enter Tryd.func54, Tryd.ntmps54
  go_wp2_with (first
    | (refine wpList_load_part rfl 95 _ rfl g off rfl HB2.out HO.out Tryd.underlying95 rfl infoWords ?_)
    | (refine wpList_store_blk rfl 95 _ _ rfl (w.heap.size + 1) (rcells (stL s)) rfl rfl 95 _ K3.out EC.out rfl (rcells_oneCell _) ?_))
  clear hz1 hz2 hz3
  have hK3 := K3.out.setRow (rcells (stL s))
  have b3 : Below w.heap.size w (((w.alloc (.cells (bcells (zeroB 32)) 24)).alloc (.cells (rcells (zeroW 8)) 95)).setRow (w.heap.size + 1) (rcells (stL s))) :=
    (B2.out.alloc (by rw [size_new]; omega) _).trans (below_of_grown (grown_setRow _ _ _) (by simp; omega) (fun g' e => by cases e; omega))
  have hK2 := (K2.out.alloc (.cells (rcells (zeroW 8)) 95)).grown (grown_setRow _ (w.heap.size + 1) (rcells (stL s))) (by simp)
  have hsz : (((w.alloc (.cells (bcells (zeroB 32)) 24)).alloc (.cells (rcells (zeroW 8)) 95)).setRow (w.heap.size + 1) (rcells (stL s))).heap.size = w.heap.size + 1 + 1 := by simp [World.setRow]
  generalize ((w.alloc (.cells (bcells (zeroB 32)) 24)).alloc (.cells (rcells (zeroW 8)) 95)).setRow (w.heap.size + 1) (rcells (stL s)) = w3 at hK3 b3 hK2 hsz ⊢
  have k4 := Blk.new w3 122 (bcells (zeroB 128))
  rw [hsz] at k4
  have b4 := b3.alloc (by omega) (.cells (bcells (zeroB 128)) 122)
  have K2' := hid (hK2.alloc (.cells (bcells (zeroB 128)) 122))
  have K3' := hid (hK3.alloc (.cells (bcells (zeroB 128)) 122))
  generalize w3.alloc (.cells (bcells (zeroB 128)) 122) = w4 at k4 b4 K2' K3' ⊢
  have HS := hid (HB.out.keep b4)
  have HG4 := hid (HG.out.keep b4)
  have l2 := HG.out.lt
  have K4 := hid k4; have B4 := hid b4
  clear K2 K3 B2 HB HB2 HG k4 b4 hK2 hK3 b3 hsz
  generalize hgw : w.heap.size = gb at K2' K3' K4 B4 lg l2 ⊢
  have HGW := hid hgw; clear hgw
  obtain ⟨hk1, hk2, hk3⟩ := KK.out
  have cN := strm_len_cell HS.out hk2 HO.out
  obtain ⟨r, hr⟩ : ∃ r, bs.length % 64 = r := ⟨_, rfl⟩
  have e0 : (bs.length : Int).tmod 64 = (r : Int) := by rw [Int.tmod_eq_emod_of_nonneg (by omega)]; omega
  have hr64 : r < 64 := by omega
  have hr1 : (r : Int) ≤ 64 := by omega
  have hr2 : (0 : Int) ≤ (r : Int) := by omega
  rw [hr] at hk3
  have HK1 := hid hk1; have HK2 := hid hk2; have HK3 := hid hk3; have HR := hid hr
  clear hk1 hk2 hk3 hr KK
  have hdl : (bs.drop (64 * (bs.length / 64))).length = r := by rw [List.length_drop]; have := HR.out; omega
  have HDL := hid hdl; clear hdl
  go_still_tail 10, (by kernel_rfl)
  rw [show ({ heap := w4.heap, tape := w4.tape, drawn := w4.drawn + 1, os := w4.os, output := w4.output } : World) = w4.drew from rfl]
  have hrs := HS.out
  rw [strm_rest] at hrs
  have hsb := part_sb hrs (off + 8) 64 (by rw [pre_words, HO.out]) HK2.out lg
  have hsr := (hsb.take r (by omega)).drew
  rw [HK3.out] at hsr
  have hk4 := K4.out
  rw [bcells_part] at hk4
  have HSR := hid hsr; have HK4 := hid hk4.drew
  clear hsr hk4 hsb hrs
  go_wp2_with ((refine wpList_copy_part rfl (.tmp 14) (.tmp 23) 22 22 rfl 5 Tryd.underlying22 infoU8 (gb + 1 + 1) 0 _ _ rfl gb _ r _ rfl _ HSR.out 122 [] [] (zeroB 128) HK4.out 0 rfl r (by show r = min r 128; omega) (by rw [zeroB_length]; omega) ?_); refine Held.go ?_)
  have hdt : (bs.drop (64 * (bs.length / 64))).take r = bs.drop (64 * (bs.length / 64)) := List.take_of_length_le (by rw [HDL.out]; exact Nat.le_refl _)
  have gq := grown_setRow w4.drew (gb + 1 + 1) (part [] ((spl (zeroB 128) 0 ((bs.drop (64 * (bs.length / 64))).take r)).map bv) [])
  have hk5 := HK4.out.setRow (part [] ((spl (zeroB 128) 0 ((bs.drop (64 * (bs.length / 64))).take r)).map bv) [])
  have hB5 := B4.out.drew.trans (below_of_grown gq (by have := B4.out.size; have := K4.out.lt; simp; omega) (fun g' e => by cases e; omega))
  have hS5 := HS.out.drew.grown gq (by simp; omega)
  have hG5 := (HG4.out.drewN 1).grown gq (by omega)
  have h25 := K2'.out.drew.grown gq (by simp; omega)
  have h35 := K3'.out.drew.grown gq (by simp)
  generalize w4.drew.setRow (gb + 1 + 1) (part [] ((spl (zeroB 128) 0 ((bs.drop (64 * (bs.length / 64))).take r)).map bv) []) = w5 at hk5 hB5 hS5 hG5 h25 h35 ⊢
  rw [hdt, ← bcells_part] at hk5
  have B5 := hid hB5; have S5 := hid hS5; have G5 := hid hG5; have K25 := hid h25; have K35 := hid h35; have K45 := hid hk5
  clear hB5 hS5 hG5 h25 h35 hk5 gq hdt HSR HK4 K2' K3' K4 B4 HS HG4 cN e0
  obtain ⟨e, he⟩ : ∃ e, e = if 64 < r + 9 then 128 else 64 := ⟨_, rfl⟩
  have he1 : r + 9 ≤ e := by split at he <;> omega
  have he2 : e ≤ 128 := by split at he <;> omega
  have hse : (bcells (spl (zeroB 128) 0 (bs.drop (64 * (bs.length / 64))))).setIfInBounds r (.int .u8 128) = bcells (tailOf (bs.drop (64 * (bs.length / 64))) bs.length e 0) := by
    rw [← tailOf_start _ _ e (by rw [HDL.out]; exact hr64) (by rw [HDL.out]; exact he1) he2, HDL.out]
    simp [bcells, List.map_set, bv]
  have hcr : ∃ x : UInt8, (bcells (spl (zeroB 128) 0 (bs.drop (64 * (bs.length / 64)))))[r]? = some (.int .u8 (x.toNat : Int)) := by
    have hl : (spl (zeroB 128) 0 (bs.drop (64 * (bs.length / 64)))).length = 128 := by rw [spl_length _ _ _ (by rw [HDL.out, zeroB_length]; omega), zeroB_length]
    exact ⟨_, by rw [bcells, List.getElem?_toArray, List.getElem?_map, by8_get (by rw [hl]; omega)]; rfl⟩
  obtain ⟨x, hx⟩ := hcr
  have c5 := K45.out.cell r hx
  have f5 := K45.out.frozen r
  have hk6 := K45.out.set_ r (.int .u8 128)
  rw [hse] at hk6
  have hB6 := B5.out.setCell (p := ⟨gb + 1 + 1, r, none⟩) (by show gb ≤ gb + 1 + 1; omega) (.int .u8 128)
  have hS6 := S5.out.far (p := ⟨gb + 1 + 1, r, none⟩) (by show ¬ g = gb + 1 + 1; omega) (.int .u8 128)
  have hG6 := G5.out.grown (grown_setCell w5 (gb + 1 + 1) r (.int .u8 128)) (by omega)
  have h26 := K25.out.far (p := ⟨gb + 1 + 1, r, none⟩) (by show ¬ gb = gb + 1 + 1; omega) (.int .u8 128)
  have h36 := K35.out.far (p := ⟨gb + 1 + 1, r, none⟩) (by show ¬ gb + 1 = gb + 1 + 1; omega) (.int .u8 128)
  have B6 := hid hB6; have S6 := hid hS6; have G6 := hid hG6; have K26 := hid h26; have K36 := hid h36; have K46 := hid hk6; have HE := hid he; have HX := hid hx
  clear hse hk6 hB6 hS6 hG6 h26 h36 B5 S5 G5 K25 K35 K45 he hx
  unfold Held
  go_upto_if 30 with (fail)
  clear c5 f5
  generalize w5.setCell ⟨gb + 1 + 1, r, none⟩ (.int .u8 128) = w6 at B6 S6 G6 K26 K36 K46 ⊢
  go_cut [6] (fun v wx => v = .int .i64 (e : Int) ∧ w6 = wx)
  case first =>
    by_cases h9 : 64 < r + 9
    · have h9' : (64 : Int) < (r : Int) + 1 + 8 := by omega
      have hee : e = 128 := by rw [HE.out, if_pos h9]
      go_wp2_with fail
      go_meet
      exact ⟨by rw [hee]; rfl, rfl⟩
    · have h9' : ¬ ((64 : Int) < (r : Int) + 1 + 8) := by omega
      have hee : e = 64 := by rw [HE.out, if_neg h9]
      go_wp2_with fail
      go_meet
      exact ⟨by rw [hee]; rfl, rfl⟩
  case rest =>
    obtain ⟨rfl, rfl⟩ := hcut
    have cN := strm_len_cell S6.out HK2.out HO.out
    have HDEF := hid (Eq.refl (bs.drop (64 * (bs.length / 64))))
    have k46 := K46.out
    generalize hd : bs.drop (64 * (bs.length / 64)) = d at k46 HDL
    have HD := hid hd; have K46' := hid k46
    clear hd k46 K46 HDEF
    go_wp2_with fail
    clear cN
    go_loopw [37] (fun i wr => ∃ m : Nat, m ≤ 8 ∧ i = .int .i64 (m : Int) ∧ Hid (Below gb w wr) ∧ Hid (Glob wr) ∧ Hid (Blk wr gb 24 (bcells (zeroB 32))) ∧ Hid (Blk wr (gb + 1) 95 (rcells (stL s))) ∧ Hid (Blk wr (gb + 1 + 1) 122 (bcells (tailOf d bs.length e m)))) (fun i _ => 8 - (intOf i).toNat)
    case atStart => exact ⟨0, by omega, rfl, B6, G6, K26, K36, K46'⟩
    case round =>
      clear B6 S6 G6 K26 K36 K46'
      obtain ⟨m, hm, rfl, HB, HG, K2, K3, K4⟩ := hrel
      by_cases hlt : m < 8
      · --DEV
        have hl : (tailOf d bs.length e m).length = 128 := tailOf_length _ _ _ _ hm (by rw [HDL.out]; exact he1) he2
        have c4 := K4.out.cell (e - 1 - m) (v := .int .u8 ((by8 (tailOf d bs.length e m) (e - 1 - m)).toNat : Int)) (by
          rw [bcells, List.getElem?_toArray, List.getElem?_map, by8_get (by rw [hl]; omega)]; rfl)
        have f4 := K4.out.frozen (e - 1 - m)
        have h4 := K4.out.set_ (e - 1 - m) (bv (UInt8.ofNat (8 * bs.length / 2 ^ (8 * m))))
        have hst : (bcells (tailOf d bs.length e m)).setIfInBounds (e - 1 - m) (bv (UInt8.ofNat (8 * bs.length / 2 ^ (8 * m)))) = bcells (tailOf d bs.length e (m + 1)) := by
          rw [← tailOf_next _ _ _ _ hlt (by rw [HDL.out]; exact he1)]
          simp [bcells, List.map_set]
        rw [hst] at h4
        generalize by8 (tailOf d bs.length e m) (e - 1 - m) = y at c4
        have H4 := hid h4
        clear h4 hst hl
        have q0 : (m : Int) < 8 := by omega
        have p0 : (0 : Int) ≤ (m : Int) := by omega
        have p1 : (0 : Int) ≤ 8 * (m : Int) := by omega
        have p2 : ¬ (8 * (m : Int) < 0) := by omega
        have r0 : (8 * (m : Int)).toNat = 8 * m := by omega
        have i1 : IntKind.i64.wrap ((e : Int) - 1) = (e : Int) - 1 := IntWalk.i64_in _ (by omega)
        have i2 : IntKind.i64.wrap ((e : Int) - 1 - (m : Int)) = (e : Int) - 1 - (m : Int) := IntWalk.i64_in _ (by omega)
        have i3 : (0 : Int) ≤ (e : Int) - 1 - (m : Int) := by omega
        have i4 : (e : Int) - 1 - (m : Int) < 128 := by omega
        have i5 : ((e : Int) - 1 - (m : Int)).toNat = e - 1 - m := by omega
        go_wp2_with fail
        rw [n_byte]
        go_roundw
        case rel => exact ⟨m + 1, by omega, by go_num, HB.out.setCell (p := ⟨gb + 1 + 1, e - 1 - m, none⟩) (by show gb ≤ gb + 1 + 1; omega) _, HG.out.grown (grown_setCell wr (gb + 1 + 1) (e - 1 - m) _) (by omega), K2.out.far (by show ¬ gb = gb + 1 + 1; omega) _, K3.out.far (by show ¬ gb + 1 = gb + 1 + 1; omega) _, H4⟩
        case measure => simp [intOf]; omega
        --VED
      · obtain rfl : m = 8 := by omega
        have q0 : ¬ ((8 : Nat) : Int) < 8 := by omega
        have h3 := K3.out
        rw [HK1.out, ← tail_start bs] at h3
        have K3' := hid h3
        clear h3 K3
        go_wp2_with fail
        go_loopw [9] (fun i wr => ∃ j : Nat, 64 * j ≤ e ∧ i = .int .i64 ((64 * j : Nat) : Int) ∧ Hid (Below gb w wr) ∧ Hid (Glob wr) ∧ Hid (Blk wr gb 24 (bcells (zeroB 32))) ∧ Hid (Blk wr (gb + 1) 95 (rcells (stL (runBlocks (padded bs) (bs.length / 64 + j))))) ∧ Hid (Blk wr (gb + 1 + 1) 122 (bcells (tailOf d bs.length e 8)))) (fun i _ => e - (intOf i).toNat)
        case atStart => exact ⟨0, by omega, rfl, HB, HG, K2, K3', K4⟩
        case round =>
          clear HB HG K2 K3' K4 q0
          obtain ⟨j, hj, rfl, HB, HG, K2, K3, K4⟩ := hrel
          by_cases hlt : 64 * j < e
          · --DEV
            have hj1 : 64 * (j + 1) ≤ e := by have := HE.out; split at this <;> omega
            have hl : (tailOf d bs.length e 8).length = 128 := tailOf_length _ _ _ _ (Nat.le_refl _) (by rw [HDL.out]; exact he1) he2
            have htb := tail_block bs e j (by rw [HR.out]; exact HE.out) hj1
            rw [HD.out] at htb
            have HTB := hid htb
            have h4 := K4.out
            rw [bcells_part] at h4
            have hsb := ((part_sb h4 0 128 rfl hl (Nat.lt_succ_self _)).drop (k := 64 * j) (c := 128) (by omega) (by omega)).take 64 (by omega)
            rw [if_neg (by omega), Option.map_some, Addr.add_lit, Nat.zero_add] at hsb
            have HSB := hid hsb
            clear hsb h4 htb hl
            have hlt1 : 64 * (j : Int) < (e : Int) := by omega
            have q0 : (0 : Int) ≤ 64 * (j : Int) := by omega
            have q1 : 64 * (j : Int) ≤ 64 * (j : Int) + 64 := by omega
            have q2 : 64 * (j : Int) + 64 ≤ 128 := by omega
            have q3 : (64 * (j : Int)).toNat = 64 * j := by omega
            have q4 : (64 * (j : Int) + 64).toNat = 64 * j + 64 := by omega
            have q5 : 64 * j + 64 - 64 * j = 64 := by omega
            have q6 : ¬ 128 = 64 * j := by omega
            have qw : IntKind.i64.wrap (64 * (j : Int) + 64) = 64 * (j : Int) + 64 := IntWalk.i64_in _ (by omega)
            go_wp2_with fail
            have h3 := K3.out
            rw [← part_cells, ← part_whole] at h3
            refine (pass_calls _ _ (128 - 64 * j) (some ⟨gb + 1 + 1, 64 * j, none⟩) _ (gb + 1) 0 95 [] [] rfl wr HSB.out (by omega) HG.out (by omega) h3).mono ?_
            rintro _ w8 ⟨rfl, g8, h8⟩
            rw [← HTB.out, part_whole, part_cells] at h8
            have H8 := hid h8
            have HB8 := hid (HB.out.trans (below_of_grown g8 (by have := K2.out.lt; omega) (fun g' e => by cases e; omega)))
            have HG8 := hid (HG.out.grown g8 (by omega))
            have K28 := hid (K2.out.grown g8 (by simp))
            have K48 := hid (K4.out.grown g8 (by simp))
            clear q1 q2 q4 q5 q6 h3 h8 g8 HSB HTB
            go_wp2_with fail
            go_roundw
            case rel => exact ⟨j + 1, hj1, by go_num, HB8, HG8, K28, H8, K48⟩
            case measure => simp [intOf]; omega
            --VED
          · have hje : 64 * j = e := by omega
            have hsh := tail_sha bs e j (by rw [HR.out]; exact HE.out) hje
            have hlt1 : ¬ (64 * (j : Int) < (e : Int)) := by omega
            have HJ := hid hje; clear hje
            go_wp2_with fail
            refine (id_calls _ (gb + 1) _ wr K3.out).mono ?_
            rintro _ w8 ⟨rfl, b8⟩
            rw [← hsh]
            have hl : (sha bs).length = 32 := rfl
            clear hsh
            generalize hC : sha bs = lC at hl ⊢
            have HCe := hid hC; clear hC
            have EC2 : Hid ((Tryd.prog.info? 24).map (·.size) = some (bcells lC).size) := by rw [Hid, bcells_size, hl]; exact (zero_of_info info26).2
            have Hsz : Hid ((bcells (zeroB 32)).size = (bcells lC).size) := by rw [Hid, bcells_size, bcells_size, hl]; rfl
            have K28 := hid (K2.out.keep b8)
            have HB8 := hid (HB.out.trans (b8.mono (Nat.le_of_lt K2.out.lt)))
            clear hl b8
            go_wp2_with (refine wpList_store_blk rfl 24 _ _ rfl gb _ rfl rfl 24 _ K28.out EC2.out Hsz.out (bcells_oneCell _) ?_)
            refine bodyPost_ret (v := .agg (bcells lC)) (results_cell_row rfl _ _ gb 24 _ (0, 0) _ rfl (K28.out.setRow _) Tryd.underlying24 rfl EC2.out) rfl ⟨by rw [HCe.out], ?_⟩
            rw [HGW.out]
            exact HB8.out.trans (below_of_grown (grown_setRow w8 gb _) (Nat.le_of_lt K28.out.lt) (fun g' e => by cases e; omega))
end Go.Proofs.YtgacdimjbpkgoaaDoor
