/- Contract of the reference of clouds: Make. -/
import Derived.Test.YthjflgnoeenenaaClRfF
namespace Go.Proofs.Ythjflgnoeenenaa
open Go Go.RowKit Cl

theorem results_cloud_tmp {fn : Func} {p q : Tmp} (h : fn.results = #[.cell p 25, .tmp q]) (tmps : Array Value) (w : World) (g : Nat) (cs : Array Value) (hl : cs.size = 2) {v : Value} (hp : tmps.getD p undef = .pointer (some ⟨g, 0, none⟩)) (hq : tmps.getD q undef = v) (hg : Blk w g 25 cs) :
    (results fn tmps).run Try.prog w = .ok (.tuple #[.agg cs, v]) w := by
  subst hq
  have hp' : tmps[p]?.getD undef = .pointer (some ⟨g, 0, none⟩) := by simpa using hp
  simp [results, h, hp', asAddr, run_load_cloud hl hg]
set_option maxRecDepth 20000 in
set_option maxHeartbeats 1000000 in
theorem rMake_calls (n c m e : Nat) (A B : Option Addr) (v : List Int) (ds : List Dt) (w : World) (h1 : NI w A n v) (h2 : ND w B m ds) (hn : n ≤ 1000000) (hm : m ≤ 4096) :
    Calls Try.prog 14 #[.slice A n c, .slice B m e] w fun x w' => ∃ V D, x = .returned (.tuple #[.agg #[V, D], .int .i64 (makeC v ds).2]) ∧ OwnN w' w.heap.size V (makeC v ds).1.1.length (makeC v ds).1.1 ∧ OwnD w' w.heap.size D (makeC v ds).1.2.length (makeC v ds).1.2 ∧ (∀ b, V.ownBlock = some b → D.ownBlock ≠ some b) ∧ Below w.heap.size w w' := by
  have hb := below_new w (.cells #[.slice none 0 0, .slice none 0 0] 25)
  have hk := Blk.new w 25 #[.slice none 0 0, .slice none 0 0]
  have hs := size_new w (.cells #[.slice none 0 0, .slice none 0 0] 25)
  obtain ⟨w1, hw1⟩ : ∃ w1, w.alloc (.cells #[.slice none 0 0, .slice none 0 0] 25) = w1 := ⟨_, rfl⟩
  have HW1 := hid hw1
  rw [hw1] at hb hk hs
  have HB := hid hb; have HK := hid hk; have HS := hid hs
  have H1 := hid (h1.keep hb); have H2 := hid (h2.keep hb)
  have L2 := hid h2.1
  have HRG := hid (rRanged_calls n c m e A B v ds w1 H1.out H2.out hn (by omega))
  obtain ⟨p, hp⟩ : ∃ p, w.heap.size = p := ⟨_, rfl⟩
  have HPP := hid hp
  clear h1 h2 hw1 hb hk hs hp
  by_cases hr : ranged v ds
  · rw [decide_eq_true hr] at HRG
    have HRA := hid hr
    rw [make_ok hr (by rw [L2.out]; omega)]
    clear hr
    go_enter Try.func14, Try.ntmps14
    go_wp2_with fail
    rw [HW1.out, HPP.out]
    refine HRG.out.mono ?_
    rintro y W2 ⟨rfl, hb2⟩
    have HB2 := hid hb2
    have HC := hid (rFormed_calls n c m e A B v ds W2 (H1.out.keep hb2) (H2.out.keep hb2) HRA.out (by omega))
    clear hb2 HRG
    go_wp2_with fail
    refine HC.out.mono ?_
    rintro y W3 ⟨V, D, rfl, ho, hod, hne, hb3⟩
    obtain ⟨AV, cV, rfl, -, -, -⟩ := ho.ni
    obtain ⟨AD, cD, rfl, -, -, -⟩ := hod.nd
    have hlen : (formedV v ds).2.length ≤ 4096 := by have := formed_len v ds; rw [L2.out] at this; omega
    have hlen' : ((formedV v ds).2.length : Int) ≤ 4096 := by omega
    have HFO := hid (show OwnN W3 W2.heap.size (.slice AV (formedV v ds).1.length cV) (formedV v ds).1.length (formedV v ds).1 ∧ OwnD W3 W2.heap.size (.slice AD (formedV v ds).2.length cD) (formedV v ds).2.length (formedV v ds).2 ∧ (Value.slice AV (formedV v ds).1.length cV).ownBlock ≠ (Value.slice AD (formedV v ds).2.length cD).ownBlock ∧ Below W2.heap.size W2 W3 from ⟨ho, hod, hne, hb3⟩)
    obtain ⟨F, hF⟩ : ∃ F, formedV v ds = F := ⟨_, rfl⟩
    rw [hF] at HFO hlen hlen'
    have HFF := hid hF
    simp only [hF]
    obtain ⟨cs, hcs⟩ : ∃ cs : Array Value, #[.slice AV F.1.length cV, .slice AD F.2.length cD] = cs := ⟨_, rfl⟩
    have HK0 := hid (Blk.new W3 25 #[.slice none 0 0, .slice none 0 0])
    have HB4 := hid (below_new W3 (.cells #[.slice none 0 0, .slice none 0 0] 25))
    have HS4 := hid (size_new W3 (.cells #[.slice none 0 0, .slice none 0 0] 25))
    obtain ⟨q, hq⟩ : ∃ q, W3.heap.size = q := ⟨_, rfl⟩
    have HQQ := hid hq
    obtain ⟨W5, hW5⟩ : ∃ W5, (W3.alloc (.cells #[.slice none 0 0, .slice none 0 0] 25)).setRow q #[.slice AV F.1.length cV, .slice AD F.2.length cD] = W5 := ⟨_, rfl⟩
    have HW5 := hid hW5
    have HK5 := hid (show Blk W5 q 25 #[.slice AV F.1.length cV, .slice AD F.2.length cD] from by rw [← hW5, ← hq]; exact HK0.out.setRow _)
    have HB5 := hid (show Below W3.heap.size W3 W5 from by
      rw [← hW5, ← hq]
      exact HB4.out.trans (below_of_grown (grown_setRow _ _ _) (by rw [HS4.out]; omega) (fun b e => by injection e with e; omega)))
    have HKP := hid (show Blk W5 p 25 #[.slice none 0 0, .slice none 0 0] from by
      rw [← HPP.out]; exact ((HK.out.keep HB2.out).keep hb3).keep HB5.out)
    have HFIN := hid (show ∀ W, W = W5.setRow p #[.slice AV F.1.length cV, .slice AD F.2.length cD] → OwnN W w.heap.size (.slice AV F.1.length cV) F.1.length F.1 ∧ OwnD W w.heap.size (.slice AD F.2.length cD) F.2.length F.2 ∧ (∀ b, (Value.slice AV F.1.length cV).ownBlock = some b → (Value.slice AD F.2.length cD).ownBlock ≠ some b) ∧ Below w.heap.size w W from by
      rintro W rfl
      obtain ⟨f1, f2, f3, f4⟩ := HFO.out
      have z1 := HB.out.size; have z2 := HB2.out.size; have z3 := f4.size; have z5 := HB5.out.size; have z0 := HS.out
      have hp1 := HPP.out
      have g2 := grown_setRow W5 p #[.slice AV F.1.length cV, .slice AD F.2.length cD]
      refine ⟨((f1.keep HB5.out).kept g2 (.inr fun e => ?_)).lower (by omega), ((f2.keep HB5.out).kept g2 (.inr fun e => ?_)).lower (by omega), fun b e e2 => f3 (e.trans e2.symm), ?_⟩
      · have := (f1.lt p e).1; omega
      · have := (f2.lt p e).1; omega
      · exact (((HB.out.trans (HB2.out.mono z1)).trans (f4.mono (by omega))).trans (HB5.out.mono (by omega))).trans (below_of_grown g2 (by omega) (fun b e => by injection e with e; omega)))
    clear ho hod hne hb3 hF hcs hq hW5 HFO
    go_wp2_with (refine wpList_store_blk rfl 25 _ _ rfl W3.heap.size #[.slice AV F.1.length cV, .slice AD F.2.length cD] rfl rfl 25 _ HK0.out (by kernel_rfl) rfl (by rfl) ?_; refine Held.go ?_)
    rw [HQQ.out, HW5.out]
    have c1 := HK5.out.cell 1 rfl
    unfold Held
    go_wp2_with (first | (refine wpList_load_row rfl 25 _ rfl q rfl 25 #[.slice AV F.1.length cV, .slice AD F.2.length cD] (0, 0) _ HK5.out Try.underlying25 rfl (by kernel_rfl) ?_) | (refine wpList_store_blk rfl 25 _ _ rfl p #[.slice AV F.1.length cV, .slice AD F.2.length cD] rfl rfl 25 _ HKP.out (by kernel_rfl) rfl (by rfl) ?_; refine Held.go ?_))
    have HKR := hid (HKP.out.setRow #[.slice AV F.1.length cV, .slice AD F.2.length cD])
    unfold Held
    go_wp2_with fail
    refine bodyPost_ret (v := .tuple #[.agg #[.slice AV F.1.length cV, .slice AD F.2.length cD], .int .i64 0]) (results_cloud_tmp rfl _ _ p _ rfl rfl rfl HKR.out) rfl ?_
    rw [HFF.out]
    exact ⟨_, _, rfl, HFIN.out _ rfl⟩
  · rw [decide_eq_false hr] at HRG
    have HM := hid (make_bad hr)
    clear hr
    go_enter Try.func14, Try.ntmps14
    go_wp2_with fail
    rw [HW1.out, HPP.out]
    refine HRG.out.mono ?_
    rintro y W2 ⟨rfl, hb2⟩
    have HB2 := hid hb2
    have HK2 := hid (show Blk W2 p 25 _ from by rw [← HPP.out]; exact HK.out.keep hb2)
    clear hb2 HRG
    go_wp2_with (refine wpList_store_blk rfl 25 _ _ rfl p #[.slice none 0 0, .slice none 0 0] rfl rfl 25 _ HK2.out (by kernel_rfl) rfl (by rfl) ?_; refine Held.go ?_)
    have HK3 := hid (HK2.out.setRow #[.slice none 0 0, .slice none 0 0])
    have HF := hid (show Below w.heap.size w (W2.setRow p #[.slice none 0 0, .slice none 0 0]) from (HB.out.trans (HB2.out.mono HB.out.size)).trans (below_of_grown (grown_setRow _ _ _) (Nat.le_trans HB.out.size HB2.out.size) (fun b e => by injection e with e; have := HPP.out; omega)))
    unfold Held
    go_wp2_with fail
    refine bodyPost_ret (v := .tuple #[.agg #[.slice none 0 0, .slice none 0 0], .int .i64 3]) (results_cloud_tmp rfl _ _ p _ rfl rfl rfl HK3.out) rfl ?_
    rw [HM.out, ← HPP.out]
    rw [← HPP.out] at HF
    exact ⟨_, _, rfl, OwnN.nil _ _, OwnD.nil _ _, (fun b e => by cases e), HF.out⟩
end Go.Proofs.Ythjflgnoeenenaa
