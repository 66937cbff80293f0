/- Contracts: a writer: NewWriter, write, Len, Done. -/
import Derived.Test.YtcpkjpeimnaimaaWrItems
import Derived.Test.YtcpkjpeimnaimaaPhase
import Derived.LaidEqlPtr
namespace Go.Proofs.Ytcpkjpeimnaimaa
open Go.RowKit

/-- the blocks of a writer -/
def fpw (g f : Nat) (r : Option Nat) : List Nat := f :: fp g r
/-- Blocks g and f are a writer. -/
def WrB (w : World) (base g f : Nat) (r : Option Nat) (lim : Nat) (s : WS) : Prop :=
  ∃ A c, Blk w g 74 #[.pointer (some ⟨g, 0, none⟩), .pointer (some ⟨f, 0, none⟩), .slice A s.bs.length c, .int .i64 (lim : Int)] ∧
    Blk w f 87 #[.int .i64 (s.e : Int), .int .i64 0] ∧ (s.e = 0 → Own w base 5 (.slice A s.bs.length c) s.bs.length s.bs) ∧ (Value.slice A s.bs.length c).ownBlock = r ∧ (∀ b, r = some b → base ≤ b ∧ b < w.heap.size ∧ b ≠ g ∧ b ≠ f) ∧ g ≠ f ∧ base ≤ g ∧ base ≤ f ∧ s.bs.length ≤ lim ∧ lim ≤ 67108864
section
variable {w w' : World} {base g f : Nat} {r : Option Nat} {lim : Nat} {s : WS} {L : List Nat}
theorem mem_fpw {b : Nat} : b ∈ fpw g f r ↔ b = f ∨ b = g ∨ r = some b := by rw [fpw, List.mem_cons, mem_fp]
theorem WrB.fp_lt (h : WrB w base g f r lim s) : ∀ b ∈ fpw g f r, base ≤ b ∧ b < w.heap.size := by
  obtain ⟨A, c, h1, h2, h3, h4, h5, h6, h7, h8, h9⟩ := h
  intro b hb
  rw [mem_fpw] at hb
  rcases hb with rfl | rfl | hb
  · exact ⟨h8, h2.lt⟩
  · exact ⟨h7, h1.lt⟩
  · exact ⟨(h5 b hb).1, (h5 b hb).2.1⟩
theorem WrB.chg (h : WrB w base g f r lim s) (hc : Chg L w w') (hd : ∀ b ∈ fpw g f r, b ∉ L) : WrB w' base g f r lim s := by
  have hlt := h.fp_lt
  obtain ⟨A, c, h1, h2, h3, h4, h5, h6, h7, h8, h9⟩ := h
  refine ⟨A, c, h1.chg hc (hd g (by rw [mem_fpw]; exact .inr (.inl rfl))), h2.chg hc (hd f (by rw [mem_fpw]; exact .inl rfl)), fun e => (h3 e).chg hc (fun b hb => hd b (by rw [mem_fpw]; exact .inr (.inr (h4 ▸ hb)))), h4, fun b hb => ?_, h6, h7, h8, h9⟩
  obtain ⟨a1, a2, a3⟩ := h5 b hb
  exact ⟨a1, Nat.lt_of_lt_of_le a2 hc.size, a3⟩
theorem WrB.keep (h : WrB w base g f r lim s) (hb : Below w.heap.size w w') : WrB w' base g f r lim s := h.chg (L := []) (Chg.of_below hb) (by simp)
theorem WrB.drew (h : WrB w base g f r lim s) : WrB w.drew base g f r lim s := h
theorem fpw_moved {B : Nat} {r' : Option Nat} (h : Moved B r r') : ∀ b ∈ fpw g f r', b ∈ fpw g f r ∨ B ≤ b := by
  intro b hb
  rw [mem_fpw] at hb ⊢
  rcases hb with hb | hb | hb
  · exact .inl (.inl hb)
  · exact .inl (.inr (.inl hb))
  · rcases h with rfl | ⟨g, rfl, hg⟩
    · exact .inl (.inr (.inr hb))
    · cases hb; exact .inr hg
end
theorem wvalid_calls (base g f : Nat) (r : Option Nat) (lim : Nat) (s : WS) (w : World) (h : WrB w base g f r lim s) :
    Calls Try.prog 62 #[.pointer (some ⟨g, 0, none⟩)] w fun e w' => e = .returned (.bool true) ∧ w = w' := by
  obtain ⟨A, c, hb, -⟩ := h
  have hsz : (Try.prog.info? 74).map (·.size) = some 4 := by kernel_rfl
  obtain ⟨j, hj, _⟩ := Option.map_eq_some_iff.1 hsz
  have he := fun W => run_eql_ptr_same (P := Try.prog) W (tp := 23) (te := 74) ⟨g, 0, none⟩ (by kernel_rfl) hj
  have c0 := hb.cell 0 rfl
  clear hb hj hsz
  go_enter Try.func62, Try.ntmps62
  go_wp2_with fail
  go_ret
  exact ⟨rfl, rfl⟩
theorem bne_nat (e : Nat) : (((e : Int)) != 0) = decide (e ≠ 0) := by
  by_cases h : e = 0
  · subst h; rfl
  · simp [bne, h]
theorem failed_calls (f : Nat) (e : Nat) (x : Value) (w : World) (h : Blk w f 87 #[.int .i64 (e : Int), x]) :
    Calls Try.prog 63 #[.pointer (some ⟨f, 0, none⟩)] w fun e' w' => e' = .returned (.bool (decide (e ≠ 0))) ∧ w = w' := by
  have c0 := h.cell 0 rfl
  clear h
  have hd := hid (bne_nat e)
  go_enter Try.func63, Try.ntmps63
  go_wp2_with fail
  go_ret
  exact ⟨ret_bool hd.out, rfl⟩
theorem keep_calls (f : Nat) (x : Value) (e2 at2 : Int) (w : World) (h : Blk w f 87 #[.int .i64 0, x]) :
    Calls Try.prog 72 #[.pointer (some ⟨f, 0, none⟩), .agg #[.int .i64 e2, .int .i64 at2]] w fun e' w' => e' = .returned (.tuple #[]) ∧ Blk w' f 87 #[.int .i64 e2, .int .i64 at2] ∧ Chg [f] w w' := by
  have b1 := below_new w (.cells #[.int .i64 e2, .int .i64 at2] 61)
  have k1 := Blk.new w 61 #[.int .i64 e2, .int .i64 at2]
  have hlt := h.lt
  have h1 := h.keep b1
  clear h
  go_enter Try.func72, Try.ntmps72
  go_wp2_with fail
  generalize w.alloc (.cells #[.int .i64 e2, .int .i64 at2] 61) = w1 at b1 k1 h1 ⊢
  refine (failed_calls f 0 x w1 h1).mono ?_
  rintro _ _ ⟨rfl, rfl⟩
  rw [show decide ((0 : Nat) ≠ 0) = false from rfl]
  have c0 := k1.cell 0 rfl
  have c1 := k1.cell 1 rfl
  have d0 := h1.cell 0 rfl
  have d1 := h1.cell 1 rfl
  have f0 := h1.frozen 0
  have f1 := h1.frozen 1
  have B1 := hid b1
  have H1 := hid h1
  clear b1 k1 h1
  go_wp2_with fail
  go_end0
  exact ⟨rfl, (H1.out.set_ 0 _).set_ 1 _, (Chg.of_below B1.out).trans ((chg_set (L := [f]) (by simp) 0 _).trans (chg_set (L := [f]) (by simp) 1 _) (fun b hb => .inl hb)) (fun b hb => .inl hb)⟩
theorem DrB.chg {w w' : World} {base d : Nat} {r : Option Nat} {lim : Nat} {s : DS} {L : List Nat} (h : DrB w base d r lim s) (hc : Chg L w w') (hd : ∀ b ∈ fp d r, b ∉ L) : DrB w' base d r lim s := by
  obtain ⟨v, h1, h2, h3, h4⟩ := h
  exact ⟨v, h1.chg hc (hd d (fp_head d r)), h2.chg hc (fun b hb => hd b (fp_row (h3 ▸ hb))), h3, h4⟩

/-- what a call that writes leaves -/
def WrPost (w : World) (base g f : Nat) (r : Option Nat) (lim : Nat) (s' : WS) (e : Ending) (w' : World) : Prop :=
  e = .returned (.int .i64 (s'.e : Int)) ∧ ∃ r', WrB w' base g f r' lim s' ∧ Chg (fpw g f r) w w' ∧ Moved w.heap.size r r'
set_option maxHeartbeats 1000000 in
theorem write_failed (base g f : Nat) (r : Option Nat) (lim : Nat) (s : WS) (X : Value) (l : List Item) (w : World) (h : WrB w base g f r lim s) (he : s.e ≠ 0) :
    Calls Try.prog 60 #[.pointer (some ⟨g, 0, none⟩), X] w (WrPost w base g f r lim (putW lim s l)) := by
  have HV := hid (wvalid_calls base g f r lim s w h)
  have HK := hid (show WrPost w base g f r lim (putW lim s l) (.returned (.int .i64 (s.e : Int))) w from by
    rw [show putW lim s l = s from by rw [putW, if_pos he]]
    exact ⟨rfl, r, h, Chg.refl _ _, Moved.refl _ _⟩)
  obtain ⟨A, c, h1, h2, -⟩ := h
  have HF := hid (failed_calls f s.e _ w h2)
  have c1 := h1.cell 1 rfl
  have f0 := h2.cell 0 rfl
  clear h1 h2
  generalize putW lim s l = s' at HK ⊢
  go_enter Try.func60, Try.ntmps60
  go_wp2_with fail
  refine HV.out.mono ?_
  rintro _ _ ⟨rfl, rfl⟩
  go_wp2_with fail
  refine HF.out.mono ?_
  rintro _ _ ⟨rfl, rfl⟩
  rw [show decide (s.e ≠ 0) = true from by simp [he]]
  go_wp2_with fail
  go_ret
  exact HK.out
attribute [local go_sem] steady
attribute [local irreducible] wpPhase
set_option maxHeartbeats 2000000 in
theorem write_open (base g f : Nat) (r : Option Nat) (lim : Nat) (bs : List UInt8) (X : Value) (l : List Item) (w : World) (h : WrB w base g f r lim ⟨bs, 0⟩)
    (HE : ∀ w1, Below w.heap.size w w1 → DrB w1 base w.heap.size r lim ⟨bs, false, false⟩ → Calls Try.prog 71 #[.pointer (some ⟨w.heap.size, 0, none⟩), X] w1 (DrPost w1 base w.heap.size r lim (l.foldl (itemM lim) ⟨bs, false, false⟩))) :
    Calls Try.prog 60 #[.pointer (some ⟨g, 0, none⟩), X] w (WrPost w base g f r lim (putW lim ⟨bs, 0⟩ l)) := by
  have HV := hid (wvalid_calls base g f r lim _ w h)
  have HFL := hid h.fp_lt
  have HH := hid h
  obtain ⟨A, c, h1, h2, h3, h4, h5, h6, h7, h8, h9, h10⟩ := h
  have HDE := hid (draft_err lim bs l h9)
  generalize hq : putW lim ⟨bs, 0⟩ l = s' at HDE
  have HQ := hid hq
  generalize hs2 : l.foldl (itemM lim) ⟨bs, false, false⟩ = s2 at HDE HE
  have HS2 := hid hs2
  have HHE := hid HE
  have HF := hid (failed_calls f 0 _ w h2)
  have c1 := h1.cell 1 rfl
  have c2 := h1.cell 2 rfl
  have c3 := h1.cell 3 rfl
  have hlt := h1.lt
  have H1 := hid h1; have H2 := hid h2; have H3 := hid (h3 rfl); have H4 := hid h4; have H5 := hid h5; have H6 := hid h6
  clear h1 h2 h3 h4 h5 h6 hq hs2 HE
  go_enter Try.func60, Try.ntmps60
  go_wp2_with fail
  refine HV.out.mono ?_
  rintro _ _ ⟨rfl, rfl⟩
  go_wp2_with fail
  refine HF.out.mono ?_
  rintro _ _ ⟨rfl, rfl⟩
  rw [show decide ((0 : Nat) ≠ 0) = false from rfl]
  go_wp2_with fail
  go_region
  have b1 := below_new w (.cells #[.slice A bs.length c, .int .i64 (lim : Int), .bool false, .bool false] 95)
  have k1 := Blk.new w 95 #[.slice A bs.length c, .int .i64 (lim : Int), .bool false, .bool false]
  have hdr : DrB (w.alloc (.cells #[.slice A bs.length c, .int .i64 (lim : Int), .bool false, .bool false] 95)) base w.heap.size r lim ⟨bs, false, false⟩ :=
    ⟨_, k1, H3.out.keep b1, H4.out, fun e => by have := H5.out _ e; omega, h9, h10, by omega⟩
  clear k1 c2 c3
  have H1w := hid (H1.out.keep b1); have H2w := hid (H2.out.keep b1)
  generalize w.alloc (.cells #[.slice A bs.length c, .int .i64 (lim : Int), .bool false, .bool false] 95) = w1 at b1 hdr H1w H2w ⊢
  have b1' : Below w.heap.size w w1.drew := b1.drew
  have hdr' := hdr.drew
  have H1' := hid (H1w.out.drew); have H2' := hid (H2w.out.drew)
  generalize w1.drew = w2 at b1' hdr' H1' H2' ⊢
  clear b1 hdr H1w H2w
  have HX := hid (HHE.out w2 b1' hdr')
  have hnf : ∀ b ∈ fp w.heap.size r, b ≠ g ∧ b ≠ f := fun b hb => by
    rw [mem_fp] at hb
    rcases hb with rfl | hb
    · have := H2.out.lt; exact ⟨by omega, by omega⟩
    · exact (H5.out b hb).2.2
  have B2 := hid b1'
  have HNF := hid hnf
  clear b1' hdr' hnf HHE
  go_wp2_with fail
  refine HX.out.mono ?_
  rintro _ w3 ⟨rfl, r3, h3, k3, m3⟩
  have H1 := hid (H1'.out.chg k3 (fun hm => (HNF.out _ hm).1 rfl)); have H2 := hid (H2'.out.chg k3 (fun hm => (HNF.out _ hm).2 rfl))
  have K3 := hid ((Chg.of_below (L := fpw g f r) B2.out).trans k3 (fun b hb => by
    rw [mem_fp] at hb
    rcases hb with rfl | hb
    · exact .inr (Nat.le_refl _)
    · exact .inl (by rw [mem_fpw]; exact .inr (.inr hb))))
  have H3 := hid h3; have M3 := hid ((Moved.refl w.heap.size r).trans m3 B2.out.size)
  clear h3 k3 m3 H1' H2' HNF HX
  go_wp2_with fail
  have hgd : g ∉ [f] := by simpa using H6.out
  have HFP := hid (fun b (hb : b ∈ fp w.heap.size r3) => show b ∉ [f] from fun hm => by
    have hbf : b = f := by simpa using hm
    subst hbf
    rw [mem_fp] at hb
    have := (HFL.out b (by rw [mem_fpw]; exact .inl rfl)).2
    rcases hb with hb | hb
    · omega
    · rcases M3.out with rfl | ⟨x, hx, hxl⟩
      · exact (H5.out b hb).2.2.2 rfl
      · rw [hb] at hx; cases hx; omega)
  refine wp_region_phase (fun k w' => Blk w' g 74 #[.pointer (some ⟨g, 0, none⟩), .pointer (some ⟨f, 0, none⟩), .slice A bs.length c, .int .i64 (lim : Int)] ∧ DrB w' base w.heap.size r3 lim s2 ∧ Chg (fpw g f r) w w' ∧ Blk w' f 87 #[.int .i64 (if k < 2 then 0 else (errM s2 : Int)), .int .i64 0]) (fun w' => Blk w' g 74 #[.pointer (some ⟨g, 0, none⟩), .pointer (some ⟨f, 0, none⟩), .slice A bs.length c, .int .i64 (lim : Int)]) (fun k w' h => h.1) (by kernel_rfl) (by kernel_rfl) (by kernel_rfl) ⟨H1.out.drew, H3.out.drew, K3.out.drew, H2.out.drew⟩ ?_
  intro S _ at_ hS
  have hc1 : ∀ x, (at_ x).cell? ⟨g, 1, none⟩ = some (.pointer (some ⟨f, 0, none⟩)) := fun x => (hS x).cell 1 rfl
  clear hS
  (refine phase_plain rfl (fun K hK => ?_); go_simp; refine hK _ ?_; clear hK K)
  (refine phase_plain rfl (fun K hK => ?_); go_simp; refine hK _ ?_; clear hK K)
  (refine phase_plain rfl (fun K hK => ?_); go_simp; refine hK _ ?_; clear hK K)
  (refine phase_plain rfl (fun K hK => ?_); go_simp; refine hK _ ?_; clear hK K)
  refine phase_call rfl rfl 73 #[.pointer (some ⟨w.heap.size, 0, none⟩)] (fun w => by go_simp) (.int .i64 (errM s2 : Int)) (fun w' hw => (err_calls base w.heap.size r3 lim s2 w' hw.2.1).mono fun e w'' ⟨he, hw'⟩ => ⟨he, hw' ▸ hw⟩) ?_
  (refine phase_plain rfl (fun K hK => ?_); go_simp; refine hK _ ?_; clear hK K)
  refine phase_call rfl rfl 72 #[.pointer (some ⟨f, 0, none⟩), .agg #[.int .i64 (errM s2 : Int), .int .i64 0]] (fun w => by go_simp) (.tuple #[]) (fun w' hw => (keep_calls f _ (errM s2 : Int) 0 w' hw.2.2.2).mono fun e w'' ⟨he, hb, hc⟩ => ⟨he, hw.1.chg hc hgd, hw.2.1.chg hc HFP.out, hw.2.2.1.trans hc (fun b hb => .inl (by rw [mem_fpw]; exact .inl (by simpa using hb))), hb⟩) ?_
  refine phase_nil ?_
  rintro w4 ⟨h1, h3, k3, h2⟩
  rw [show (if 0 + 1 + 1 < 2 then (0 : Int) else (errM s2 : Int)) = (s'.e : Int) from by rw [HDE.out.1]; rfl] at h2
  have c1 := h1.cell 1 rfl
  have d0 := h2.cell 0 rfl
  have HF := hid (failed_calls f s'.e _ w4 h2)
  have H1 := hid h1; have H2 := hid h2; have K3 := hid k3; have H3 := hid h3
  clear h1 h3 k3 h2 hc1
  go_wp2_with fail
  refine HF.out.mono ?_
  rintro _ _ ⟨rfl, rfl⟩
  by_cases he : s'.e = 0
  · rw [show decide (s'.e ≠ 0) = false from by simp [he]]
    obtain ⟨v, hb, ho, hr, hne, hl, hlim, hbd⟩ := H3.out
    obtain ⟨A2, cc2, rfl, -, -, -⟩ := ho.sb
    have e0 := hb.cell 0 rfl
    have g2 := H1.out.cell 2 rfl
    have gf := H1.out.frozen 2
    have hr3 : ∀ b, r3 = some b → base ≤ b ∧ b < w4.heap.size ∧ b ≠ g ∧ b ≠ f := fun b hb3 => by
      have hb4 := ho.block b (hr.trans hb3)
      refine ⟨hb4.1, hb4.2, ?_⟩
      rcases M3.out with rfl | ⟨x, hx, hxl⟩
      · exact (H5.out b hb3).2.2
      · rw [hb3] at hx; cases hx
        have h1 := (HFL.out g (by rw [mem_fpw]; exact .inr (.inl rfl))).2
        have h2 := (HFL.out f (by rw [mem_fpw]; exact .inl rfl)).2
        exact ⟨by omega, by omega⟩
    have hB := HDE.out.2.1 he
    have key : WrPost w base g f r lim s' (.returned (.int .i64 (s'.e : Int))) (w4.setCell ⟨g, 2, none⟩ (.slice A2 s2.bs.length cc2)) := by
      refine ⟨rfl, r3, ⟨A2, cc2, ?_, ?_, fun _ => ?_, ?_, ?_, H6.out, h7, h8, ?_, h10⟩, K3.out.trans (chg_set (L := fpw g f r) (by rw [mem_fpw]; exact .inr (.inl rfl)) 2 _) (fun b hb => .inl hb), M3.out⟩
      · rw [← hB]; exact H1.out.set_ 2 _
      · exact H2.out.far (fun e => H6.out e.symm) _
      · rw [← hB]
        exact ho.kept (grown_setCell w4 g 2 _) (.inr (fun e => by
          have := hr3 g (hr ▸ e); exact this.2.2.1 rfl))
      · rw [← hB]; exact hr
      · intro b hb3
        obtain ⟨a1, a2, a3⟩ := hr3 b hb3
        exact ⟨a1, by simpa using a2, a3⟩
      · rw [← hB]; exact hl
    have d1 : (w4.setCell ⟨g, 2, none⟩ (.slice A2 s2.bs.length cc2)).cell? ⟨f, 0, none⟩ = some (.int .i64 (s'.e : Int)) := (H2.out.far (p := ⟨g, 2, none⟩) (fun e => H6.out e.symm) _).cell 0 rfl
    have d2 : (w4.setCell ⟨g, 2, none⟩ (.slice A2 s2.bs.length cc2)).cell? ⟨g, 1, none⟩ = some (.pointer (some ⟨f, 0, none⟩)) := (H1.out.set_ 2 _).cell 1 rfl
    have HK := hid key
    have HE := hid he
    clear key hr3 hB ho hb hr hne hl hlim hbd he
    generalize s2.bs.length = m2 at *
    go_wp2_with fail
    go_ret
    exact HK.out
  · rw [show decide (s'.e ≠ 0) = true from by simp [he]]
    have key : WrPost w base g f r lim s' (.returned (.int .i64 (s'.e : Int))) w4 := by
      have hB := HDE.out.2.2 he
      refine ⟨rfl, r, ⟨A, c, ?_, H2.out, fun e => absurd e he, ?_, ?_, H6.out, h7, h8, ?_, h10⟩, K3.out, Moved.refl _ _⟩
      · rw [hB]; exact H1.out
      · rw [hB]; exact H4.out
      · intro b hb3
        obtain ⟨a1, a2, a3⟩ := H5.out b hb3
        exact ⟨a1, Nat.lt_of_lt_of_le a2 K3.out.size, a3⟩
      · rw [hB]; exact h9
    have HK := hid key
    clear key he
    go_wp2_with fail
    go_ret
    exact HK.out
/-- a writer takes a thing -/
theorem write_calls (base g f : Nat) (r : Option Nat) (lim : Nat) (s : WS) (X : Value) (l : List Item) (w : World) (h : WrB w base g f r lim s)
    (HE : s.e = 0 → ∀ w1, Below w.heap.size w w1 → DrB w1 base w.heap.size r lim ⟨s.bs, false, false⟩ → Calls Try.prog 71 #[.pointer (some ⟨w.heap.size, 0, none⟩), X] w1 (DrPost w1 base w.heap.size r lim (l.foldl (itemM lim) ⟨s.bs, false, false⟩))) :
    Calls Try.prog 60 #[.pointer (some ⟨g, 0, none⟩), X] w (WrPost w base g f r lim (putW lim s l)) := by
  by_cases he : s.e = 0
  · obtain ⟨bs, e⟩ := s
    simp only at he HE
    subst he
    exact write_open base g f r lim bs X l w h (HE rfl)
  · exact write_failed base g f r lim s X l w h he
end Go.Proofs.Ytcpkjpeimnaimaa
