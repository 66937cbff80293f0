/- The example of Title, whole. -/
import Derived.Test.YtgbjnndebdmijaaDoorNmTitle
namespace Go.Proofs.YtgbjnndebdmijaaDoor
open Go.RowKit
attribute [local go_sem] eql_func eql_none run_mkF

def NX : FuncId := 23
def spots : List (Nat × Nat) := [(0, 0), (1, 1), (2, 3), (3, 4), (4, 5), (5, 6), (6, 7), (7, 8)]
def LI (g pos : Nat) (k : FuncId) (first cs : Array Value) : Prop := ∃ j, (j, pos) ∈ spots ∧ k = NX ∧ first = ptr g ∧ cs = runCells j
theorem title_chars : ∀ e ∈ spots, e.2 < 8 → (∃ q ∈ props, q.1 = (Utf8.decode titleS e.2).1) ∧ (e.1 + 1, e.2 + (Utf8.decode titleS e.2).2) ∈ spots ∧ (Utf8.decode titleS e.2).1 ≠ 65533 ∧ e.1 < 64 := by decide +kernel
theorem nx_enters : Enters' NX := enters_of Tryd.func23 (by kernel_rfl) rfl
theorem title_step (g : Nat) : ∀ pos k first cs c wr, pos < titleS.size → LI g pos k first cs → Blk wr g 58 cs → NGlob wr → IsChar c → (c = (Utf8.decode titleS pos).1 ∨ (Utf8.decode titleS pos).1 = 65533 ∧ c = -2) →
    Enters' k ∧ Calls Tryd.prog k (first ++ #[.int .i32 c]) wr (Took g 58 wr False (LI g (pos + (Utf8.decode titleS pos).2))) := by
  intro pos k first cs c wr hlt hI hb hG _ hdec
  obtain ⟨j, hj, rfl, rfl, rfl⟩ := hI
  obtain ⟨⟨⟨i, x⟩, hq, hqi⟩, hnx, hne, h64⟩ := title_chars _ hj hlt
  simp only at hqi hnx hne h64
  have hc : c = (i : Int) := by
    rcases hdec with h | ⟨h, _⟩
    · rw [h, hqi]
    · exact absurd h hne
  subst hc
  refine ⟨nx_enters, (next_at g j i x hq h64 wr hG hb).mono ?_⟩
  rintro e w' ⟨rfl, gx, hb2⟩
  exact ⟨gx, .inr ⟨_, _, _, rfl, ⟨j + 1, hnx, rfl, rfl, rfl⟩, hb2⟩⟩
theorem title_end (g : Nat) : ∀ k first cs wr, LI g titleS.size k first cs → Blk wr g 58 cs → NGlob wr →
    Enters' k ∧ Calls Tryd.prog k (first ++ #[.int .i32 (-1)]) wr (Took g 58 wr False (fun _ _ _ => True)) := by
  intro k first cs wr hI hb _
  obtain ⟨j, hj, rfl, rfl, rfl⟩ := hI
  refine ⟨nx_enters, (next_end g wr).mono ?_⟩
  rintro e w' ⟨rfl, b⟩
  exact ⟨grown_of_below b _, .inr ⟨_, _, _, rfl, trivial, hb.keep b⟩⟩
set_option maxHeartbeats 1000000 in
theorem title_calls (w : World) (hG : NGlob w) : Calls Tryd.prog 13 #[.string titleS] w fun e w' => e = .returned (.agg #[.int .i64 0, .int .i64 0]) ∧ Below w.heap.size w w' := by
  have hz := (zero_of_info infoFault).1
  have EF : Hid ((Tryd.prog.info? 27).map (·.size) = some 2) := (zero_of_info infoFault).2
  have k0 := (Blk.new w 27 #[.int .i64 0, .int .i64 0]).alloc (.cells (runCells 0) 58)
  have k1 := Blk.new (w.alloc (.cells #[.int .i64 0, .int .i64 0] 27)) 58 (runCells 0)
  rw [size_new] at k1
  have b1 : Below w.heap.size w ((w.alloc (.cells #[.int .i64 0, .int .i64 0] 27)).alloc (.cells (runCells 0) 58)) := ((Below.refl _ _).alloc (Nat.le_refl _) _).alloc (by simp) _
  have K0 := hid k0; have K1 := hid k1; have B1 := hid b1; have lg := hG.lt; have HG := hid (hG.keep b1)
  clear k0 k1 b1 hG
  have hss2 : titleS.size ≤ 1099511627776 := by decide
  have hst := title_step; have hen := title_end
  have HSS2 := hid hss2; have HST := hid hst; have HEN := hid hen
  clear hss2 hst hen
  generalize titleS = s at HSS2 HST HEN ⊢
  go_enter Tryd.func13, Tryd.ntmps13
  go_wp2_with fail
  rw [show (#[.func (.func 22) #[] #[], .int .i64 0, .int .i64 64] : Array Value) = runCells 0 from rfl]
  generalize (w.alloc (.cells #[.int .i64 0, .int .i64 0] 27)).alloc (.cells (runCells 0) 58) = w1 at K0 K1 B1 HG ⊢
  generalize hgw : w.heap.size = G at K0 K1 B1 lg ⊢
  have HGW := hid hgw; clear hgw
  have hI0 : LI (G + 1) 0 23 #[.pointer (some ⟨G + 1, 0, none⟩)] (runCells 0) := ⟨0, by decide, rfl, rfl, rfl⟩
  refine (examine_calls s (G + 1) 58 (LI (G + 1)) NGlob (fun _ => False) (fun _ => True) 7 (fun w w' h hg => h.grown hg (by omega)) (HST.out _) (HEN.out _) _ _ _ w1 hI0 K1.out HG.out HSS2.out).mono ?_
  rintro e w2 ⟨gx, ⟨pos, hst, _⟩ | ⟨rfl, _, _, _⟩⟩
  · exact hst.elim
  · have K02 := hid (K0.out.grown gx (by simp only [ne_eq, Option.some.injEq]; omega))
    have B2 := hid (B1.out.trans (below_of_grown gx (by have := K1.out.lt; omega) (fun g' e => by cases e; omega)))
    have K03 := hid (K02.out.alloc (.cells #[.int .i64 0, .int .i64 0] 27))
    have K43 := hid (Blk.new w2 27 #[.int .i64 0, .int .i64 0])
    have B3 := hid (B2.out.alloc (by have := K02.out.lt; omega) (.cells #[.int .i64 0, .int .i64 0] 27))
    clear gx hI0 K0 K1 B1 HG K02 B2
    go_wp2_with (first
      | (refine wpList_load_row rfl 27 _ rfl w2.heap.size rfl _ _ (0, 0) _ K43.out Tryd.underlying27 rfl EF.out ?_)
      | (refine wpList_store_blk rfl 27 _ _ rfl G #[.int .i64 0, .int .i64 0] rfl rfl 27 _ K03.out EF.out rfl (by rfl) ?_))
    refine bodyPost_ret (v := .agg #[.int .i64 0, .int .i64 0]) (results_cell_row rfl _ _ G 27 _ (0, 0) _ rfl (K03.out.setRow _) Tryd.underlying27 rfl EF.out) rfl ⟨rfl, ?_⟩
    rw [HGW.out]
    exact B3.out.trans (below_of_grown (grown_setRow _ G _) (Nat.le_of_lt K03.out.lt) (fun g' e => by cases e; omega))
end Go.Proofs.YtgbjnndebdmijaaDoor
