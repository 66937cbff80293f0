/- Contract: bytes are added. -/
import Derived.Test.YtgacdimjbpkgoaaDoorUpWrite
namespace Go.Proofs.YtgacdimjbpkgoaaDoor
open Go.RowKit
attribute [local go_sem] up_mkf
section
variable {w : World} {base t : Nat} {width next : Int} {ss : List US} {sv : Value} {qs : List (Nat × Value × List Value)}
theorem push_len (s : US) (bs : List UInt8) : (s.push bs).len = s.len + bs.length := by
  unfold US.push
  by_cases h : bs = []
  · rw [if_pos h, h]; rfl
  · rw [if_neg h]; simp [US.len]
set_option maxHeartbeats 4000000 in
set_option maxRecDepth 20000 in
theorem up_write (h : UpB w base t width next ss sv qs) (hbs : base ≤ w.heap.size) (hs : (nosOf ss).Pairwise (· < ·)) (hm : ss.length ≤ 1000000) (x : Int) (A : Option Addr) (n c : Nat) (bs : List UInt8) (hsb : SB w w.heap.size A n bs) {s : US} (hss : ss[aheadN (nosOf ss) x]? = some s) (hno : hasNo ss x = true) (hl : s.len + n ≤ 4096) :
    Calls Tryd.prog 9 #[.pointer (some ⟨t, 0, none⟩), .int .i64 x, .int .i64 (s.len : Int), .slice A n c] w fun e w' => e = .returned (.tuple #[.int .i64 ((s.len + n : Nat) : Int), .int .i64 0]) ∧ ∃ qs', UpB w' base t width next (ss.set (aheadN (nosOf ss) x) (s.push bs)) sv qs' ∧ Chg (upF t sv qs) w w' ∧ (∀ b ∈ upF t sv qs', b ∈ upF t sv qs ∨ w.heap.size ≤ b) := by
  obtain ⟨W, hW, k0, k1, hB, hZ⟩ := up_two w #[.int .i64 0] #[.int .i64 0] 31 65
  have hyf : w.heap.size + 1 ∉ upF t sv qs := fun hb => by have := (h.lt _ hb).2; omega
  have HF := hid (up_find_yes (h.keep hB) hs hm x (w.heap.size + 1) 0 k1 hyf hno)
  have HLT := hid (fun b (hb : b ∈ upF t sv qs) => (h.lt b hb).2)
  have HH := hid (h.keep hB); have HSB := hid (hsb.keep hB)
  have HW := hid hW; have K0 := hid k0; have HB := hid hB; have HZ := hid hZ
  have hbl := hsb.1
  have hpl := push_len s bs
  rw [hbl] at hpl
  have HPL := hid hpl; have HSS := hid hss; have HBS := hid hbs; have HBL := hid hbl
  generalize aheadN (nosOf ss) x = R at HF HSS hss ⊢
  obtain ⟨sl, hsl⟩ : ∃ sl, s.len = sl := ⟨_, rfl⟩
  have HSL := hid hsl
  rw [hsl] at hl HPL ⊢
  have HL := hid hl
  have hsub : IntKind.i64.wrap (4096 - (sl : Int)) = 4096 - (sl : Int) := IntWalk.i64_in _ (by omega)
  have hgt : (n : Int) ≤ 4096 - (sl : Int) := by omega
  have hgd : decide ((n : Int) ≤ 4096 - (sl : Int)) = true := decide_eq_true hgt
  clear h hs hm hno hW k0 k1 hB hZ hyf hl hsb hss hsl hpl hbs hbl
  go_enter_defers Tryd.func9, Tryd.ntmps9
  go_wp2_with fail
  rw [← HW.out]
  refine HF.out.mono ?_
  rintro _ w2 ⟨q, pv, us, hq, rfl, hc, hz, hb⟩
  have HH2 := hid (HH.out.chg hc (fun b hb hm => by have := HLT.out b hb; simp at hm; omega))
  have HQ := hid hq
  have K2 := hid (K0.out.chg hc (by simp)); have Y2 := hid hb
  have HB2 := hid (HB.out.trans (hc.below (B := w.heap.size) (fun b hb => by simp at hb; omega) HB.out.size))
  have HZ2 := hid (hz.trans HZ.out)
  have HSB2 := hid (show SB w2 w.heap.size A n bs from HSB.out.chg hc (fun b off e hlt hm => by simp at hm; omega))
  have cl : w2.cell? ⟨q, 3, none⟩ = some (.int .i64 (sl : Int)) := by rw [← HSL.out]; exact (HH2.out.each _ s _ HSS.out hq).hd.cell 3 rfl
  clear hc hz hb hq HF HW HH HB HZ HSB
  go_wp2_with fail
  refine (up_unless (w.heap.size + 1) true 13 0 w2 Y2.out).mono ?_
  rintro _ w3 ⟨rfl, hc, hz, hb⟩
  have HH3 := hid (HH2.out.chg hc (fun b hb hm => by have := HLT.out b hb; simp at hm; omega))
  have K3 := hid (K2.out.chg hc (by simp)); have Y3 := hid (show Blk w3 (w.heap.size + 1) 65 #[.int .i64 0] by simpa using hb)
  have HB3 := hid (HB2.out.trans (hc.below (B := w.heap.size) (fun b hb => by simp at hb; omega) HB2.out.size))
  have HZ3 := hid (hz.trans HZ2.out)
  have HSB3 := hid (show SB w3 w.heap.size A n bs from HSB2.out.chg hc (fun b off e hlt hm => by simp at hm; omega))
  have cl3 : w3.cell? ⟨q, 3, none⟩ = some (.int .i64 (sl : Int)) := by rw [← HSL.out]; exact (HH3.out.each _ s _ HSS.out HQ.out).hd.cell 3 rfl
  clear hc hz hb cl HH2 K2 Y2 HB2 HZ2 HSB2
  go_wp2_with fail
  refine (up_unless (w.heap.size + 1) true 4 0 w3 Y3.out).mono ?_
  rintro _ w4 ⟨rfl, hc, hz, hb⟩
  have HH4 := hid (HH3.out.chg hc (fun b hb hm => by have := HLT.out b hb; simp at hm; omega))
  have K4 := hid (K3.out.chg hc (by simp)); have Y4 := hid (show Blk w4 (w.heap.size + 1) 65 #[.int .i64 0] by simpa using hb)
  have HB4 := hid (HB3.out.trans (hc.below (B := w.heap.size) (fun b hb => by simp at hb; omega) HB3.out.size))
  have HZ4 := hid (hz.trans HZ3.out)
  have HSB4 := hid (show SB w4 w.heap.size A n bs from HSB3.out.chg hc (fun b off e hlt hm => by simp at hm; omega))
  have hse := HH4.out.each _ s _ HSS.out HQ.out
  have HA := hid (up_add A n c w.heap.size bs hse (Nat.le_trans HBS.out HB4.out.size) HSB4.out (by rw [HSL.out]; have := HL.out; omega))
  clear hc hz hb cl3 HH3 K3 Y3 HB3 HZ3 HSB3 hsub hgt hgd hse
  go_wp2_with fail
  refine HA.out.mono ?_
  rintro _ w5 ⟨rfl, pv', us', hse, hc, hbl⟩
  obtain ⟨hu, hf⟩ := HH4.out.put HQ.out hse hc hbl
  have c5 : w5.cell? ⟨q, 3, none⟩ = some (.int .i64 ((sl + n : Nat) : Int)) := by
    rw [← HPL.out]; exact hse.hd.cell 3 rfl
  have hin : ∀ b ∈ q :: pv.ownBlock.toList, b ∈ upF t sv qs := fun b hb => mem_upF.2 (.inr (.inr ⟨_, List.mem_of_getElem? HQ.out, (by
    rcases List.mem_cons.1 hb with rfl | hb
    · exact mem_upBlocks.2 (.inl rfl)
    · exact mem_upBlocks.2 (.inr (.inl (by simpa using hb))))⟩))
  have K5 := hid (K4.out.chg hc (fun hm => by have := HLT.out _ (hin _ hm); omega))
  have Y5 := hid (Y4.out.chg hc (fun hm => by have := HLT.out _ (hin _ hm); omega))
  have HC5 := hid (show Chg (upF t sv qs) w w5 from (Chg.of_below HB4.out).trans hc (fun b hb => .inl (hin b hb)))
  have HU := hid hu; have HFB := hid hf
  have c0 : w5.cell? ⟨w.heap.size, 0, none⟩ = some (.int .i64 0) := K5.out.cell 0 rfl
  have z0 := K5.out.frozen 0
  clear hse hc hbl hu hf hin HA
  go_wp2_with fail
  refine up_door rfl 0 0 0 _ rfl (fun _ => by simp [go_sem]) (fun W z hy hx => up_doorWrite _ _ _ _ _ W hy hx) K5.out Y5.out rfl rfl (fun W hW => ⟨rfl, _, HU.out.chg hW (fun b hb hm => ?_), HC5.out.trans hW (fun b hb => .inr (by rw [List.mem_singleton.1 hb]; exact Nat.le_refl _)), fun b hb => ?_⟩)
  · rw [List.mem_singleton.1 hm] at hb
    have hz4 := HZ4.out
    rcases HFB.out _ hb with h1 | h1
    · have := HLT.out _ h1; omega
    · omega
  · have hz4 := HZ4.out
    rcases HFB.out _ hb with h1 | h1
    · exact .inl h1
    · exact .inr (by omega)
end
end Go.Proofs.YtgacdimjbpkgoaaDoor
