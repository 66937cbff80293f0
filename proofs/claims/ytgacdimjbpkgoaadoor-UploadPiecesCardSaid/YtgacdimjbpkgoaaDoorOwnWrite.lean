/- Contract: a stream's write. -/
import Derived.Test.YtgacdimjbpkgoaaDoorOwnBegin
import Derived.StillTailTactics
import Derived.Deep.DeepCutAuto
namespace Go.Proofs.YtgacdimjbpkgoaaDoor
open Go.RowKit Crc

theorem strm_words (pre : List Value) (s : St) (rest : List UInt8) (n : Nat) : part pre (strm s rest n) [] = part pre ((stL s).map rv) (rest.map bv ++ [.int .i64 (n : Int)]) := by simp [part, strm]
theorem strm_rest (pre : List Value) (s : St) (rest : List UInt8) (n : Nat) : part pre (strm s rest n) [] = part (pre ++ (stL s).map rv) (rest.map bv) [.int .i64 (n : Int)] := by simp [part, strm]
theorem pre_words (pre : List Value) (s : St) : (pre ++ (stL s).map rv).length = pre.length + 8 := by simp [stL]
theorem strm_last (s : St) (rest : List UInt8) (n : Nat) (hr : rest.length = 64) : (strm s rest n)[72]? = some (.int .i64 (n : Int)) := by
  rw [strm, List.getElem?_append_right (by simp [stL, hr])]
  simp [stL, hr]
theorem strm_setLast (s : St) (rest : List UInt8) (n m : Nat) (hr : rest.length = 64) : (strm s rest n).set 72 (.int .i64 (m : Int)) = strm s rest m := by
  rw [strm, List.set_append_right _ _ (by simp [stL, hr])]
  simp [stL, hr, strm]
theorem strm_len_cell {w : World} {g off n : Nat} {t : TypeId} {pre : List Value} {s : St} {rest : List UInt8} (hb : Blk w g t (part pre (strm s rest n) [])) (hr : rest.length = 64) (hoff : pre.length = off) : w.cell? ⟨g, off + 72, none⟩ = some (.int .i64 (n : Int)) := by
  subst hoff
  exact hb.cell _ (part_at (strm_last s rest n hr))
theorem strm_len_set {w : World} {g off n : Nat} {t : TypeId} {pre : List Value} {s : St} {rest : List UInt8} (hb : Blk w g t (part pre (strm s rest n) [])) (hr : rest.length = 64) (hoff : pre.length = off) (m : Nat) :
    Blk (w.setCell ⟨g, off + 72, none⟩ (.int .i64 (m : Int))) g t (part pre (strm s rest m) []) := by
  subst hoff
  have h := hb.set_ (pre.length + 72) (.int .i64 (m : Int))
  rwa [part_set _ _ _ _ _ (by rw [strm_length _ _ _ hr]; omega), strm_setLast _ _ _ _ hr] at h

theorem infoU8 : (Tryd.prog.info? 5).map (·.size) = some 1 := by kernel_rfl
/-- the length of a slice in a slot: for a loop's measure -/
def slen : Value → Nat | .slice _ n _ => n | _ => 0
/-- what a write leaves -/
def Wrote (w : World) (g : Nat) (t : TypeId) (pre : List Value) (all : List UInt8) (e : Ending) (w' : World) : Prop :=
  e = .returned (.tuple #[]) ∧ w.grownBy w' (some g) ∧ ∃ s rest, Kept all s rest ∧ Blk w' g t (part pre (strm s rest all.length) [])
/-- what is left to be taken in -/
def Left1 (w : World) (g : Nat) (t : TypeId) (pre : List Value) (all : List UInt8) (v : Value) (wr : World) : Prop :=
  ∃ (k c : Nat) (A : Option Addr) (rest : List UInt8), 64 * k ≤ all.length ∧ all.length - 64 * k ≤ c ∧ v = .slice A (all.length - 64 * k) c ∧ SB wr g A (all.length - 64 * k) (all.drop (64 * k)) ∧ w.grownBy wr (some g) ∧ Glob wr ∧ rest.length = 64
    ∧ Blk wr g t (part pre (strm (runBlocks all k) rest all.length) [])

set_option maxHeartbeats 4000000 in
set_option maxRecDepth 100000 in
theorem write_calls (bs cs : List UInt8) (s : St) (rest : List UInt8) (hK : Kept bs s rest) (g off : Nat) (t : TypeId) (pre : List Value) (hoff : pre.length = off) (m c : Nat) (A : Option Addr) (w : World)
    (hs : SB w g A m cs) (hc : m ≤ c) (hG : Glob w) (hg : 1 < g) (hb : Blk w g t (part pre (strm s rest bs.length) [])) (hn : bs.length + m ≤ 1099511627776) :
    Calls Tryd.prog 53 #[.pointer (some ⟨g, off, none⟩), .slice A m c] w (Wrote w g t pre (bs ++ cs)) := by
  have HO := hid hoff; clear hoff
  have hr : rest.length = 64 := hK.2.1
  have HR := hid hr
  have hm := hs.1
  have HM := hid hm
  have hl : (bs ++ cs).length = bs.length + m := by rw [List.length_append, hm]
  have HAL := hid hl
  have hset := strm_len_set hb hr HO.out (bs.length + m)
  have cN := strm_len_cell hb hr HO.out
  have fN := hb.frozen (off + 72)
  rw [Int.natCast_add] at hset
  have hw1 := grown_setCell w g (off + 72) (.int .i64 ((bs.length : Int) + (m : Int)))
  have gl1 := hG.grown hw1 hg
  have hs1 := hs.grown hw1 (fun g' e => by cases e; omega)
  generalize hL : bs.length = L at cN hset HAL hl hn hw1 gl1 hs1
  have HL := hid hL; clear hL
  have KK := hid hK; have HSET := hid hset; have GR1 := hid hw1; have GL1 := hid gl1; have HS1 := hid hs1
  clear hK hr hm hset hw1 gl1 hs1 hl hs hG hb
  go_enter Tryd.func53, Tryd.ntmps53
  go_upto_if 21 with (fail)
  clear fN cN
  generalize w.setCell ⟨g, off + 72, none⟩ (.int .i64 ((L : Int) + (m : Int))) = w1 at HSET GR1 GL1 HS1 ⊢
  go_cut [1, 4] (fun v1 _ wx => Left1 w g t pre (bs ++ cs) v1 wx)
  case first =>
    by_cases h0 : L % 64 = 0
    · have e0 : (L : Int) % 64 = 0 := by omega
      go_wp2_with fail
      go_meet
      have hk := KK.out
      have hdr := drop_start bs cs (by rw [HL.out]; exact h0)
      rw [HL.out] at hdr
      have hk1 := hk.1
      rw [HL.out] at hk1
      refine ⟨L / 64, c, A, rest, by rw [HAL.out]; omega, by rw [HAL.out]; omega, ?_, ?_, GR1.out, GL1.out, HR.out, ?_⟩
      · rw [HAL.out, show L + m - 64 * (L / 64) = m by omega]
      · rw [HAL.out, show L + m - 64 * (L / 64) = m by omega, hdr]; exact HS1.out
      · rw [HAL.out, runBlocks_left _ _ _ (by rw [HL.out]; omega), ← hk1]; exact HSET.out
    · obtain ⟨h, hh⟩ : ∃ h, L % 64 = h := ⟨_, rfl⟩
      have e0 : (L : Int) % 64 = (h : Int) := by omega
      have pos : (0 : Int) < (h : Int) := by omega
      have hp : h ≤ 64 := by omega
      have hp1 : (h : Int) ≤ 64 := by omega
      have hp2 : ¬ 64 = h := by omega
      have hlt : h < 64 := by omega
      have hpn : 0 < h := by omega
      have hmL : m ≤ 1099511627776 := by omega
      have HH := hid hh; clear hh h0
      have hb1 := HSET.out
      rw [strm_rest, Int.natCast_add] at hb1
      have HB1 := hid hb1; clear hb1
      by_cases hm : m < 64 - h
      · --DEV
        have hlt2 : (h : Int) + (m : Int) < 64 := by omega
        go_wp2_with (refine wpList_copy_part rfl (.tmp 26) (.tmp 27) 22 22 rfl 5 Tryd.underlying22 infoU8 g (off + 8 + h) _ _ rfl g A m c rfl cs HS1.out t (pre ++ (stL s).map rv) [.int .i64 ((L : Int) + (m : Int))] rest HB1.out h (by rw [pre_words, HO.out]) m (by show m = min m (64 - h); omega) (by rw [HR.out]; omega) ?_)
        go_end0
        have hx := HB1.out.setRow (part (pre ++ (stL s).map rv) ((spl rest h (cs.take m)).map bv) [.int .i64 ((L : Int) + (m : Int))])
        rw [← Int.natCast_add, ← strm_rest] at hx
        have hkk := kept_short KK.out (cs := cs) (by rw [HL.out, HH.out, HM.out]; omega)
        rw [HL.out, HH.out] at hkk
        rw [List.take_of_length_le (by rw [HM.out]; exact Nat.le_refl _)] at hx ⊢
        refine ⟨rfl, GR1.out.trans (grown_setRow _ _ _), s, _, hkk, ?_⟩
        rw [HAL.out, ← Int.natCast_add, ← strm_rest]
        exact hx
        --VED
      · obtain ⟨r, hr⟩ : ∃ r, h + r = 64 := ⟨64 - h, by omega⟩
        have hrm : r ≤ m := by omega
        have hlt2 : ¬ ((h : Int) + (r : Int) < 64) := by omega
        have hr1 : (h : Int) + (r : Int) = 64 := by omega
        have HRR := hid hr; clear hr hr1
        go_wp2_with (refine wpList_copy_part rfl (.tmp 26) (.tmp 27) 22 22 rfl 5 Tryd.underlying22 infoU8 g (off + 8 + h) _ _ rfl g A m c rfl cs HS1.out t (pre ++ (stL s).map rv) [.int .i64 ((L : Int) + (m : Int))] rest HB1.out h (by rw [pre_words, HO.out]) r (by show r = min m (64 - h); have := HRR.out; omega) (by rw [HR.out, HRR.out]; exact Nat.le_refl _) ?_)
        have hx := HB1.out.setRow (part (pre ++ (stL s).map rv) ((spl rest h (cs.take r)).map bv) [.int .i64 ((L : Int) + (m : Int))])
        have gx := GR1.out.trans (grown_setRow w1 g (part (pre ++ (stL s).map rv) ((spl rest h (cs.take r)).map bv) [.int .i64 ((L : Int) + (m : Int))]))
        have g2 := grown_setRow w1 g (part (pre ++ (stL s).map rv) ((spl rest h (cs.take r)).map bv) [.int .i64 ((L : Int) + (m : Int))])
        have hsx := HS1.out.grown g2 (fun g' e => by cases e; omega)
        have glx := GL1.out.grown g2 hg
        generalize w1.setRow g (part (pre ++ (stL s).map rv) ((spl rest h (cs.take r)).map bv) [.int .i64 ((L : Int) + (m : Int))]) = w2 at hx gx hsx glx ⊢
        have HX := hid hx; have GX := hid gx; have HSX := hid hsx; have GLX := hid glx
        clear hx gx hsx glx g2 e0 pos hp hp1 hp2 hlt2
        go_still_tail 7, (by kernel_rfl)
        go_wp2_with fail
        have hlr : (spl rest h (cs.take r)).length = 64 := by
          have h1 := HRR.out; have h2 := HR.out; have h3 := HM.out
          rw [spl_length _ _ _ (by rw [List.length_take]; omega), h2]
        have hsb := part_sb HX.out (off + 8) 64 (by rw [pre_words, HO.out]) hlr (Nat.lt_succ_self g)
        have hbw := HX.out
        rw [← Int.natCast_add, ← strm_rest, strm_words] at hbw
        refine (pass_calls s (g + 1) 64 (some ⟨g, off + 8, none⟩) (spl rest h (cs.take r)) g off t pre _ HO.out w2.drew hsb.drew (Nat.le_refl _) (GLX.out.drewN 1) hg (hbw.drewN 1)).mono ?_
        rintro e w3 ⟨rfl, g3, hb3⟩
        have hbl : blockR s (spl rest h (cs.take r)) = runBlocks (bs ++ cs) (L / 64 + 1) := by
          have := kept_full KK.out (cs := cs) (by rw [HL.out, HH.out, HM.out]; have := HRR.out; omega)
          rwa [HL.out, HH.out, show 64 - h = r by have := HRR.out; omega] at this
        rw [hbl, ← strm_words] at hb3
        have HB3 := hid hb3
        have GR3 := hid ((grown_drewN GX.out 1).trans g3)
        have GL3 := hid ((GLX.out.drewN 1).grown g3 hg)
        have hs3 := (HSX.out.drewN 1).grown g3 (fun g' e => by cases e; omega)
        have hdr : (bs ++ cs).drop (64 * (L / 64 + 1)) = cs.drop r := by
          have := drop_full bs cs
          rw [HL.out, HH.out, show 64 - h = r by have := HRR.out; omega] at this
          rcases this with h1 | h1
          · exact h1
          · exact absurd h1 (by have := HRR.out; omega)
        have hs4 := hs3.drop (k := r) hrm hc
        generalize hA : (if c = r then A else A.map (·.add r)) = A2 at hs4
        have HS4 := hid hs4; have HDR := hid hdr; have HLR := hid hlr
        clear hs3 hs4 hdr hlr hb3 g3 hbl hsb hbw HX GX HSX GLX
        have hrc : r ≤ c := by omega
        have hri : (r : Int) ≤ (m : Int) := by omega
        go_wp2_with fail
        go_meet
        have e1 : L + m - 64 * (L / 64 + 1) = m - r := by have := HRR.out; have := HH.out; omega
        refine ⟨L / 64 + 1, c - r, A2, spl rest h (cs.take r), by rw [HAL.out]; have := HRR.out; have := HH.out; omega, by rw [HAL.out, e1]; omega, ?_, ?_, GR3.out, GL3.out, HLR.out, ?_⟩
        · rw [HAL.out, e1]
        · rw [HAL.out, e1, HDR.out]; exact HS4.out
        · rw [HAL.out]; exact HB3.out
  case rest =>
    clear HSET GR1 GL1 HS1 KK HR HM HAL HL hn hc
    go_wp2_with fail
    go_loopw [1] (fun v wr => Left1 w g t pre (bs ++ cs) v wr) (fun v _ => slen v)
    case atStart => exact hcut
    case round =>
      clear hcut
      obtain ⟨k, c, A, rest, hk, hc, rfl, hs, gr, gl, hr, hb⟩ := hrel
      have HS := hid hs; have GR := hid gr; have GL := hid gl; have HR := hid hr; have HB := hid hb; have HK := hid hk
      clear hs gr gl hr hb hk
      generalize hR : (bs ++ cs).length - 64 * k = R at hc HS ⊢
      have HRE := hid hR; clear hR
      by_cases hlt : 64 ≤ R
      · --DEV
        obtain ⟨b, o, rfl, hbg, _⟩ := HS.out.2 (by omega)
        have hc1 : 64 ≤ c := by omega
        have hc2 : ¬ c = 0 := by omega
        have hc3 : (64 : Int) ≤ (c : Int) := by omega
        have hc4 : (64 : Int) ≤ (R : Int) := by omega
        go_wp2_with fail
        go_still_tail 5, (by kernel_rfl)
        go_wp2_with fail
        have hbw := HB.out
        rw [strm_words] at hbw
        refine (pass_calls (runBlocks (bs ++ cs) k) g c (some ⟨b, o, none⟩) (((bs ++ cs).drop (64 * k)).take 64) g off t pre _ HO.out wr.drew (HS.out.take 64 hlt).drew hc1 (GL.out.drewN 1) hg (hbw.drewN 1)).mono ?_
        rintro e w3 ⟨rfl, g3, hb3⟩
        rw [show blockR (runBlocks (bs ++ cs) k) (((bs ++ cs).drop (64 * k)).take 64) = runBlocks (bs ++ cs) (k + 1) from rfl, ← strm_words] at hb3
        have HB3 := hid hb3
        have GR3 := hid ((grown_drewN GR.out 1).trans g3)
        have GL3 := hid ((GL.out.drewN 1).grown g3 hg)
        have hs3 := (HS.out.drewN 1).grown g3 (fun g' e => by cases e; omega)
        have hs4 := hs3.drop (k := 64) hlt hc
        rw [List.drop_drop, show 64 * k + 64 = 64 * (k + 1) by omega] at hs4
        generalize hA : (if c = 64 then some (⟨b, o, none⟩ : Addr) else (some (⟨b, o, none⟩ : Addr)).map (·.add 64)) = A2 at hs4
        have HS4 := hid hs4
        clear hs3 hs4 hb3 g3 hbw HS GR GL HB
        go_wp2_with fail
        go_roundw
        case rel =>
          have e1 : (bs ++ cs).length - 64 * (k + 1) = R - 64 := by have := HRE.out; omega
          exact ⟨k + 1, c - 64, A2, rest, by have := HRE.out; omega, by rw [e1]; omega, by rw [e1, ← hA]; simp only [Option.map_some, Addr.add_lit], by rw [e1]; exact HS4.out, GR3.out, GL3.out, HR.out, HB3.out⟩
        case measure => simp [slen]; omega
        --VED
      · have hlt2 : (R : Int) < 64 := by omega
        have hb1 := HB.out
        rw [strm_rest] at hb1
        have HB1 := hid hb1; clear hb1
        go_wp2_with (refine wpList_copy_part rfl (.tmp 58) (.tmp 59) 22 22 rfl 5 Tryd.underlying22 infoU8 g (off + 8) _ _ rfl g A R c rfl _ HS.out t (pre ++ (stL (runBlocks (bs ++ cs) k)).map rv) [.int .i64 ((bs ++ cs).length : Int)] rest HB1.out 0 (by rw [pre_words, HO.out]) R (by show R = min R 64; omega) (by rw [HR.out]; omega) ?_)
        go_end0
        have hx := HB1.out.setRow (part (pre ++ (stL (runBlocks (bs ++ cs) k)).map rv) ((spl rest 0 (((bs ++ cs).drop (64 * k)).take R)).map bv) [.int .i64 ((bs ++ cs).length : Int)])
        rw [← strm_rest] at hx
        have hkk := kept_end (all := bs ++ cs) (k := k) HR.out HK.out (by rw [HRE.out]; omega)
        rw [HRE.out] at hkk
        exact ⟨rfl, GR.out.trans (grown_setRow _ _ _), _, _, hkk, by rw [← Int.natCast_add, ← List.length_append, ← strm_rest]; exact hx⟩
end Go.Proofs.YtgacdimjbpkgoaaDoor
