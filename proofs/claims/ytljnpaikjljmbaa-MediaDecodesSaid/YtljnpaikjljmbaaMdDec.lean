/- Contract: Decode. -/
import Derived.Test.YtljnpaikjljmbaaMdMan
namespace Go.Proofs.Ytljnpaikjljmbaa
open Go.RowKit

theorem results_cells2 {fn : Func} {p q : Tmp} {t1 t2 : TypeId} (h : fn.results = #[.cell p t1, .cell q t2]) (tmps : Array Value) (w : World) (a1 a2 : Addr) (v1 v2 : Value) (hp : tmps.getD p undef = .pointer (some a1)) (hq : tmps.getD q undef = .pointer (some a2))
    (h1 : (loadVar t1 a1).run Try.prog w = .ok v1 w) (h2 : (loadVar t2 a2).run Try.prog w = .ok v2 w) : (results fn tmps).run Try.prog w = .ok (.tuple #[v1, v2]) w := by
  have hp' : tmps[p]?.getD undef = .pointer (some a1) := by simpa using hp
  have hq' : tmps[q]?.getD undef = .pointer (some a2) := by simpa using hq
  simp only [results, h]
  simp [Sem.run_bind, hp', hq', h1, h2, asAddr]
/-- what is read of bytes: a manifest, and what is wrong -/
def decR (bs : List UInt8) : MM × RS × (Nat × Nat) := manR bs (.ok 0) (0, 0)
def decF (bs : List UInt8) : Nat × Nat := if 4096 < bs.length then (4, 4096) else srcEnd bs (decR bs).2.1 (decR bs).2.2
def decM (bs : List UInt8) : MM := if (decF bs).1 = 0 then (decR bs).1 else zeroM
def fltV (F : Nat × Nat) : Value := .agg #[.int .i64 (F.1 : Int), .int .i64 (F.2 : Int)]
def DecP (w : World) (bs : List UInt8) (e : Ending) (w' : World) : Prop :=
  ∃ v1 v2, e = .returned (.tuple #[.agg (mcs (decM bs) v1 v2).toArray, fltV (decF bs)]) ∧ OwnD w' w.heap.size v1 (decM bs).l ∧ OwnD w' w.heap.size v2 (decM bs).u ∧ (v1 = nilV ∨ v2 = nilV) ∧ Below w.heap.size w w'
theorem decM_id (bs : List UInt8) : (decM bs).c.id.length = 32 := by
  unfold decM
  split
  · exact manB_id _ _ _ _
  · rfl
theorem does_store {P : Program} {o : Oper} {a : Act} {w : World} {T : Value → World → Prop} (t : TypeId) (x y : Operand) (ho : o.op = .store t x y) (g : Nat) (cs : Array Value) (hx : a.eval x = .pointer (some ⟨g, 0, none⟩)) (hy : a.eval y = .agg cs)
    (t' : TypeId) (old : Array Value) (hb : Blk w g t' old) (hi : (P.info? t).map (·.size) = some cs.size) (hold : old.size = cs.size) (h1 : cs.toList.all (·.oneCell') = true) (h : T undef (w.setRow g cs)) : OpDoes P o a w T :=
  fun _ _ hK => wp_store_row t x y ho g cs hx hy t' old hb hi hold (by rw [← Array.all_toList]; exact h1) (hK _ _ h)
/-- the two results' blocks -/
structure Res2 (w W : World) (R : Nat) (c0 c1 : Array Value) : Prop where
  hR : w.heap.size = R
  b0 : Blk W R 28 c0
  b1 : Blk W (R + 1) 43 c1
  bel : Below w.heap.size w W
section
variable {w W W' : World} {R : Nat} {c0 c1 c0' c1' : Array Value}
theorem Res2.keep (h : Res2 w W R c0 c1) (hb : Below W.heap.size W W') : Res2 w W' R c0 c1 := ⟨h.hR, h.b0.keep hb, h.b1.keep hb, h.bel.trans (hb.mono h.bel.size)⟩
theorem Res2.chg {L : List Nat} (h : Res2 w W R c0 c1) (hc : Chg L W W') (hL : ∀ b ∈ L, R + 2 ≤ b) : Res2 w W' R c0 c1 :=
  ⟨h.hR, h.b0.chg hc (fun hm => by have := hL _ hm; omega), h.b1.chg hc (fun hm => by have := hL _ hm; omega), h.bel.trans (hc.below (fun b hb => by have := hL b hb; have := h.hR; omega) h.bel.size)⟩
theorem Res2.set0 (h : Res2 w W R c0 c1) (cs : Array Value) : Res2 w (W.setRow R cs) R cs c1 :=
  ⟨h.hR, h.b0.setRow cs, h.b1.grown (grown_setRow W R cs) (by simp), h.bel.trans (below_of_grown (grown_setRow W R cs) h.bel.size (fun g e => by cases e; have := h.hR; omega))⟩
theorem Res2.set1 (h : Res2 w W R c0 c1) (cs : Array Value) : Res2 w (W.setRow (R + 1) cs) R c0 cs :=
  ⟨h.hR, h.b0.grown (grown_setRow W (R + 1) cs) (by simp), h.b1.setRow cs, h.bel.trans (below_of_grown (grown_setRow W (R + 1) cs) h.bel.size (fun g e => by cases e; have := h.hR; omega))⟩
theorem Res2.cells1 (h : Res2 w W R c0 #[.int .i64 0, .int .i64 0]) (x y : Value) : Res2 w ((W.setCell ⟨R + 1, 0, none⟩ x).setCell ⟨R + 1, 1, none⟩ y) R c0 #[x, y] := by
  have hc : Chg [R + 1] W ((W.setCell ⟨R + 1, 0, none⟩ x).setCell ⟨R + 1, 1, none⟩ y) := (chg_set (L := [R + 1]) (by simp) 0 _).trans (chg_set (L := [R + 1]) (by simp) 1 _) (fun b hb => .inl hb)
  exact ⟨h.hR, h.b0.chg hc (by simp), (h.b1.set_ 0 x).set_ 1 y, h.bel.trans (hc.below (fun b hb => by have := h.hR; simp at hb; omega) h.bel.size)⟩
theorem Res2.ret {x y : Int} (h : Res2 w W R c0 #[.int .i64 x, .int .i64 y]) (hsz : c0.size = 39) (tmps : Array Value) (h2 : tmps.getD 2 undef = .pointer (some ⟨R, 0, none⟩)) (h3 : tmps.getD 3 undef = .pointer (some ⟨R + 1, 0, none⟩)) :
    (results Try.f20 tmps).run Try.prog W = .ok (.tuple #[.agg c0, .agg #[.int .i64 x, .int .i64 y]]) W :=
  results_cells2 rfl tmps W _ _ _ _ h2 h3 (run_loadVar_row W R _ _ _ (0, 0) _ h.b0 Try.underlying28 rfl (by rw [hsz]; kernel_rfl)) (run_loadVar_row W (R + 1) _ _ _ (0, 0) _ h.b1 Try.underlying43 rfl (size_fault _ rfl))
theorem Res2.start (w : World) (c0 c1 : Array Value) : Res2 w ((w.alloc (.cells c0 28)).alloc (.cells c1 43)) w.heap.size c0 c1 := by
  obtain ⟨k0, k1, hb⟩ := two_new w c0 c1 28 43
  exact ⟨rfl, k0, k1, hb⟩
end
def dcVal (zd : Array Value) (x y : Int) : Nat → Value → Value
  | 0, _ => .agg zd
  | 1, _ => .agg #[.int .i64 x, .int .i64 y]
  | _, k => k
theorem srcEnd_zero {bs : List UInt8} {s : RS} {rf : Nat × Nat} (hg : s.good bs.length) (h : (srcEnd bs s rf).1 = 0) : srcEnd bs s rf = (0, 0) := by
  unfold srcEnd at h ⊢
  by_cases hr : rf.1 = 0
  · rw [if_pos hr] at h ⊢
    cases s with
    | ok a =>
      by_cases ha : a < bs.length
      · rw [show endS bs (.ok a) = (4, a) from if_pos ha] at h; cases h
      · exact if_neg ha
    | bad e p => exact absurd h hg.1
  · rw [if_neg hr] at h; exact absurd h hr
structure DcS (w : World) (R G : Nat) (zd : Array Value) (X Y : Int) (f : Nat → Bool) (_gh : Nat → Value) (W : World) : Prop where
  blk : Blk W G 43 #[.int .i64 X, .int .i64 Y]
  hG : R + 2 ≤ G
  pre : f 3 = false → Res2 w W R zd #[.int .i64 0, .int .i64 0]
  post : f 3 = true → Res2 w W R zd #[.int .i64 X, .int .i64 Y]
section
variable {w W : World} {R G : Nat} {zd : Array Value} {X Y : Int} {f : Nat → Bool} {gh : Nat → Value}
theorem DcS.step {gh' : Nat → Value} (h : DcS w R G zd X Y f gh W) (i : Nat) (h3 : 3 ≠ i) : DcS w R G zd X Y (upd f i) gh' W :=
  ⟨h.blk, h.hG, by rw [ap_ne h3]; exact h.pre, by rw [ap_ne h3]; exact h.post⟩
theorem DcS.store0 {gh' : Nat → Value} (h : DcS w R G zd X Y f gh W) (h3 : f 3 = false) : DcS w R G zd X Y (upd f 2) gh' (W.setRow R zd) :=
  ⟨h.blk.grown (grown_setRow W R zd) (by have := h.hG; simp; omega), h.hG, fun _ => (h.pre h3).set0 zd, fun e => by rw [ap_ne (by decide), h3] at e; cases e⟩
theorem DcS.store1 {gh' : Nat → Value} (h : DcS w R G zd X Y f gh W) (h3 : f 3 = false) : DcS w R G zd X Y (upd f 3) gh' (W.setRow (R + 1) #[.int .i64 X, .int .i64 Y]) :=
  ⟨h.blk.grown (grown_setRow W (R + 1) _) (by have := h.hG; simp; omega), h.hG, (fun e => by rw [ap_eq] at e; cases e), fun _ => (h.pre h3).set1 _⟩
end
set_option maxRecDepth 20000 in
set_option maxHeartbeats 4000000 in
theorem decode_calls (B n c : Nat) (A : Option Addr) (bs : List UInt8) (w : World) (hs : SB w B A n bs) (hn : n ≤ 9223372036854775807) :
    Calls Try.prog 20 #[.slice A n c] w (DecP w bs) := by
  have hz := (zero_of_info infoM).1
  have HR2 := hid (Res2.start w zmc #[.int .i64 0, .int .i64 0])
  have HSA : Hid ((Try.prog.info? 28).map (·.size) = some zmc.size) := size_man (m := zeroM) rfl nilV nilV
  have HOZ : Hid (zmc.toList.all (·.oneCell') = true) := mcs_one zeroM nilV nilV rfl rfl
  have hBT := show Try.prog.built 28 [] = some zmc from by kernel_rfl
  have HZS := hid (show zmc.size = 39 from rfl)
  have HBAD := hid (show ∀ F : Nat × Nat, decF bs = F → F.1 ≠ 0 → ∀ W', Below w.heap.size w W' → DecP w bs (.returned (.tuple #[.agg zmc, .agg #[.int .i64 (F.1 : Int), .int .i64 (F.2 : Int)]])) W' from fun F hF h0 W' h => by
    have hM : decM bs = zeroM := if_neg (by rw [hF]; exact h0)
    refine ⟨nilV, nilV, ?_, ?_, ?_, .inl rfl, h⟩
    · rw [hM, hF]; rfl
    · rw [hM]; exact OwnD.nil _ _
    · rw [hM]; exact OwnD.nil _ _)
  have HGOOD := hid (show decF bs = (0, 0) → ∀ v1 v2 W', OwnD W' w.heap.size v1 (decR bs).1.l → OwnD W' w.heap.size v2 (decR bs).1.u → (v1 = nilV ∨ v2 = nilV) → Below w.heap.size w W' → DecP w bs (.returned (.tuple #[.agg (mcs (decR bs).1 v1 v2).toArray, .agg #[.int .i64 0, .int .i64 0]])) W' from fun hF v1 v2 W' h1 h2 h3 h4 => by
    have hM : decM bs = (decR bs).1 := if_pos (by rw [hF])
    exact ⟨v1, v2, by rw [hM, hF]; rfl, by rw [hM]; exact h1, by rw [hM]; exact h2, h3, h4⟩)
  have hlen := hs.1
  by_cases hlong : 4096 < n
  · have hF : decF bs = (4, 4096) := if_pos (by omega)
    have HFIN := hid (HBAD.out (4, 4096) hF (by simp))
    have hn' : (4096 : Int) < (n : Int) := by omega
    generalize DecP w bs = Q at HFIN ⊢
    generalize zmc = zd at hz HSA HOZ hBT HFIN HR2 HZS
    clear HBAD HGOOD hF hs hlen
    go_enter Try.func20, Try.ntmps20
    go_wp2_with ((refine wpList_store_blk rfl 28 _ _ rfl w.heap.size _ rfl rfl 28 _ HR2.out.b0 HSA.out rfl HOZ.out ?_); refine Held.go ?_)
    have HR3 := hid (HR2.out.set0 zd)
    generalize ((w.alloc (.cells zd 28)).alloc (.cells #[.int .i64 0, .int .i64 0] 43)).setRow w.heap.size zd = w1 at HR3 ⊢
    have d0 := HR3.out.b1.cell 0 rfl
    have d1 := HR3.out.b1.cell 1 rfl
    have f0 := HR3.out.b1.frozen 0
    have f1 := HR3.out.b1.frozen 1
    have HR4 := hid (HR3.out.cells1 (.int .i64 4) (.int .i64 4096))
    clear HR2 HR3 hz hBT
    unfold Held
    go_wp2_with fail
    exact bodyPost_ret (HR4.out.ret HZS.out _ rfl rfl) rfl (HFIN.out _ HR4.out.bel)
  · have hn' : ¬ (4096 : Int) < (n : Int) := by omega
    have hF : decF bs = srcEnd bs (decR bs).2.1 (decR bs).2.2 := if_neg (by omega)
    have HNR := hid (fun W (hW : Below w.heap.size w W) => newReader_calls w.heap.size n c A bs W ((hs.fit.keep hW)) (by omega))
    have HRD := hid (show manR bs (.ok 0) (0, 0) = decR bs from rfl)
    generalize decR bs = DR at HRD HGOOD hF
    have HF := hid hF
    clear hs hF
    have hz2 := hz
    generalize hzd : zmc = zd at hz HSA HOZ hBT HBAD HR2 HZS hz2
    have HZD := hid hzd
    clear hzd
    go_enter Try.func20, Try.ntmps20
    go_wp2_with fail
    generalize hR : w.heap.size = R at HR2 ⊢
    have HRE := hid hR
    generalize (w.alloc (.cells zd 28)).alloc (.cells #[.int .i64 0, .int .i64 0] 43) = w1 at HR2 ⊢
    clear hR
    refine (HNR.out w1 HR2.out.bel).mono ?_
    rintro _ w2 ⟨g, ff, r, rfl, hrd, hb2⟩
    have HR3 := hid (HR2.out.keep hb2)
    have HRQ := hid (show R + 2 ≤ w1.heap.size from HR2.out.b1.lt)
    have HRD1 := hid hrd
    have HB2 := hid hb2.size
    clear hrd hb2 HNR HR2
    go_wp2_with fail
    have hb3 := below_new w2 (.cells #[.pointer (some ⟨g, 0, none⟩), .int .i64 (n : Int), .int .i64 0, .int .i64 0] 73)
    have hk3 := Blk.new w2 73 #[.pointer (some ⟨g, 0, none⟩), .int .i64 (n : Int), .int .i64 0, .int .i64 0]
    generalize w2.alloc (.cells #[.pointer (some ⟨g, 0, none⟩), .int .i64 (n : Int), .int .i64 0, .int .i64 0] 73) = w3 at hb3 hk3 ⊢
    have HSRC := hid (show SrcB w3 w1.heap.size w2.heap.size g ff r bs (.ok 0) (0, 0) from
      ⟨by rw [hlen]; exact hk3, HRD1.out.keep hb3, fun hm => by have := (HRD1.out.fp_lt _ hm).2; omega, HB2.out⟩)
    have HR4 := hid (HR3.out.keep hb3)
    generalize w2.heap.size = q at HSRC ⊢
    clear hb3 hk3 HRD1 HR3 HB2
    have HMAN := hid (src_man w1.heap.size q g ff r bs (.ok 0) (0, 0) w3 HSRC.out)
    rw [HRD.out] at HMAN
    refine HMAN.out.mono ?_
    rintro _ w4 ⟨v1, v2, rfl, ho1, ho2, hnil, hsp⟩
    have HR5 := hid (HR4.out.chg hsp.2 (fun b hb => by
      have h1 := HRQ.out
      have h2 := HSRC.out.hb
      have h3 := fun x hx => (HSRC.out.rd.fp_lt x hx).1
      have h4 := h3 g (by rw [mem_fpw]; exact .inr (.inl rfl))
      have h5 := h3 ff (by rw [mem_fpw]; exact .inl rfl)
      simp at hb; omega))
    have HO1 := hid (ho1.lower (base' := R + 2) (by have := HR4.out.b1.lt; omega))
    have HO2 := hid (ho2.lower (base' := R + 2) (by have := HR4.out.b1.lt; omega))
    have HNIL := hid hnil
    have HSP := hid hsp.1
    have hid32 : DR.1.c.id.length = 32 := by rw [← HRD.out]; exact manB_id _ _ _ _
    have HSC : Hid ((Try.prog.info? 28).map (·.size) = some (mcs DR.1 v1 v2).toArray.size) := size_man hid32 _ _
    have HSZ : Hid (zd.size = (mcs DR.1 v1 v2).toArray.size) := by rw [Hid, HZS.out, List.size_toArray, mcs_length hid32]
    have HOC := hid (mcs_one DR.1 v1 v2 (by rcases ho1.form with ⟨_, _, _, rfl⟩; rfl) (by rcases ho2.form with ⟨_, _, _, rfl⟩; rfl))
    have HG := hid (show decF bs = (0, 0) → ∀ W', OwnD W' w.heap.size v1 DR.1.l → OwnD W' w.heap.size v2 DR.1.u → Below w.heap.size w W' → DecP w bs (.returned (.tuple #[.agg (mcs DR.1 v1 v2).toArray, .agg #[.int .i64 0, .int .i64 0]])) W' from fun h W' a b c => HGOOD.out h v1 v2 W' a b HNIL.out c)
    have KZ := hid (Blk.new w4 28 zd)
    have HNS := hid (new_set w4 28 zd (mcs DR.1 v1 v2).toArray)
    generalize (mcs DR.1 v1 v2).toArray = cm at HSC HSZ HOC HG HNS ⊢
    clear ho1 ho2 hnil hsp hid32 HMAN HSRC HR4 HGOOD HRQ
    go_wp2_with ((refine wpList_store_blk rfl 28 _ _ rfl w4.heap.size _ rfl rfl 28 _ KZ.out HSC.out HSZ.out HOC.out ?_); refine Held.go ?_)
    obtain ⟨hb5, hk5⟩ := HNS.out
    generalize (w4.alloc (.cells zd 28)).setRow w4.heap.size cm = w5 at hb5 hk5 ⊢
    generalize w4.heap.size = M at hk5 ⊢
    have HR6 := hid (HR5.out.keep hb5)
    have HO1' := hid (HO1.out.keep hb5)
    have HO2' := hid (HO2.out.keep hb5)
    have HSP' := hid (HSP.out.keep hb5)
    have HM5 := hid hk5
    have hgood := HSP'.out.good
    clear hb5 hk5 KZ HNS HR5 HO1 HO2 HSP
    unfold Held
    go_wp2_with fail
    refine (src_end w1.heap.size q g ff r bs DR.2.1 DR.2.2 w5 HSP'.out).mono ?_
    rintro _ w6 ⟨rfl, hb6⟩
    rw [← HF.out]
    have HR7 := hid (HR6.out.keep hb6)
    have HO1 := hid (HO1'.out.keep hb6)
    have HO2 := hid (HO2'.out.keep hb6)
    have HM6 := hid (HM5.out.keep hb6)
    clear hb6 HSP' HR6 HO1' HO2' HM5
    have hzero : (decF bs).1 = 0 → decF bs = (0, 0) := fun h => by rw [HF.out] at h ⊢; exact srcEnd_zero hgood h
    generalize hFF : decF bs = FF at HBAD HG hzero
    obtain ⟨x, y⟩ := FF
    have HBD := hid (show x ≠ 0 → ∀ W', Below w.heap.size w W' → DecP w bs (.returned (.tuple #[.agg zd, .agg #[.int .i64 (x : Int), .int .i64 (y : Int)]])) W' from fun h W' hb => HBAD.out (x, y) rfl h W' hb)
    have HGD := hid (show x = 0 → ∀ W', OwnD W' w.heap.size v1 DR.1.l → OwnD W' w.heap.size v2 DR.1.u → Below w.heap.size w W' → DecP w bs (.returned (.tuple #[.agg cm, .agg #[.int .i64 0, .int .i64 0]])) W' from fun h => HG.out (hzero h))
    clear hFF HF hzero HBAD HG hgood
    dsimp only
    have hb7 := below_new w6 (.cells #[.int .i64 (x : Int), .int .i64 (y : Int)] 43)
    have hk7 := Blk.new w6 43 #[.int .i64 (x : Int), .int .i64 (y : Int)]
    have HR8 := hid (HR7.out.keep hb7)
    have HO1' := hid (HO1.out.keep hb7)
    have HO2' := hid (HO2.out.keep hb7)
    have HM7 := hid (HM6.out.keep hb7)
    generalize hw7 : w6.alloc (.cells #[.int .i64 (x : Int), .int .i64 (y : Int)] 43) = w7 at hb7 hk7 HR8 HO1' HO2' HM7
    have HK7 := hid hk7
    have HRW := hid HR7.out.b1.lt
    have e0 := hk7.cell 0 rfl
    have e1 := hk7.cell 1 rfl
    clear hk7 hb7 HR7 HO1 HO2 HM6
    by_cases hx : x = 0
    · subst hx
      have HGD0 := hid (show ∀ W', OwnD W' w.heap.size v1 DR.1.l → OwnD W' w.heap.size v2 DR.1.u → Below w.heap.size w W' → DecP w bs (.returned (.tuple #[.agg cm, .agg #[.int .i64 0, .int .i64 0]])) W' from HGD.out rfl)
      rw [show ((0 : Nat) : Int) = 0 from rfl] at e0 hw7 ⊢
      have HRUN := hid (run_loadVar_row (P := Try.prog) w7 M _ 28 _ (0, 0) _ HM7.out Try.underlying28 rfl HSC.out)
      clear HBD
      go_wp2_with (first | (refine wpList_load_run rfl 28 _ rfl _ _ rfl HRUN.out ?_) | ((refine wpList_store_blk rfl 28 _ _ rfl R _ rfl rfl 28 _ HR8.out.b0 HSC.out HSZ.out HOC.out ?_); refine Held.go ?_))
      have HR9 := hid (HR8.out.set0 cm)
      have HP1 := hid (HO1'.out.chg (chg_row w7 R cm) (fun b e hm => by have := (World.ownsRow.lt HO1'.out b e).1; simp at hm; omega))
      have HP2 := hid (HO2'.out.chg (chg_row w7 R cm) (fun b e hm => by have := (World.ownsRow.lt HO2'.out b e).1; simp at hm; omega))
      have HCM := hid (show cm.size = 39 from by rw [← HSZ.out]; exact HZS.out)
      clear e0 e1 HK7 hw7 HRUN HR8 HO1' HO2' HM7
      generalize w7.setRow R cm = w8 at HR9 HP1 HP2 ⊢
      have d0 := HR9.out.b1.cell 0 rfl
      have d1 := HR9.out.b1.cell 1 rfl
      have f0 := HR9.out.b1.frozen 0
      have f1 := HR9.out.b1.frozen 1
      have HR10 := hid (HR9.out.cells1 (.int .i64 0) (.int .i64 0))
      have HC := hid ((chg_set (w := w8) (d := R + 1) (L := [R + 1]) (by simp) 0 (.int .i64 0)).trans (chg_set (d := R + 1) (L := [R + 1]) (by simp) 1 (.int .i64 0)) (fun b hb => .inl hb))
      have hRE := HRE.out
      have HL := hid (show w.heap.size ≤ R + 2 from by omega)
      have HQ1 := hid ((HP1.out.chg HC.out (fun b e hm => by have := (World.ownsRow.lt HP1.out b e).1; simp at hm; omega)).lower HL.out)
      have HQ2 := hid ((HP2.out.chg HC.out (fun b e hm => by have := (World.ownsRow.lt HP2.out b e).1; simp at hm; omega)).lower HL.out)
      clear hz hz2 hBT HP1 HP2 HR9 hRE
      unfold Held
      go_wp2_with fail
      exact bodyPost_ret (HR10.out.ret HCM.out _ rfl rfl) rfl (HGD0.out _ HQ1.out HQ2.out HR10.out.bel)
    · have HBD0 := hid (show ∀ W', Below w.heap.size w W' → DecP w bs (.returned (.tuple #[.agg zd, .agg #[.int .i64 (x : Int), .int .i64 (y : Int)]])) W' from HBD.out hx)
      clear HBD
      have hx' : ¬ (x : Int) = 0 := by omega
      clear HGD HO1' HO2' HM7 HSC HSZ HOC HNIL
      have HOF := hid (show (#[.int .i64 (x : Int), .int .i64 (y : Int)] : Array Value).toList.all (·.oneCell') = true from rfl)
      have HSF : Hid ((Try.prog.info? 43).map (·.size) = some (#[.int .i64 (x : Int), .int .i64 (y : Int)] : Array Value).size) := size_fault _ rfl
      have HSTART := hid HR8.out
      have HGR := hid (show R + 2 ≤ w6.heap.size from HRW.out)
      generalize (x : Int) = X at hx' HBD0 HK7 e0 e1 hw7 HOF HSF ⊢
      generalize (y : Int) = Y at HBD0 HK7 e0 e1 hw7 HOF HSF ⊢
      go_wp2_with fail
      generalize w6.heap.size = G at HK7 HGR e0 e1 ⊢
      refine wp_region_invG 29 (.pointer none) (dcVal zd X Y) (DcS w R G zd X Y) (by kernel_rfl) (by kernel_rfl) (by exact Nat.le_refl 29) ?_ ?_ ?_
      · exact ⟨HK7.out, HGR.out, fun _ => HSTART.out.keep (Below.refl _ _).drew, fun h => by cases h⟩
      · intro i o f gh a W hi hf hdep hsame hcl hval hS
        rcases i with _ | _ | _ | _ | i
        all_goals simp only [List.getElem?_cons_succ, List.getElem?_cons_zero, List.getElem?_nil, Option.some.injEq, reduceCtorEq] at hi
        all_goals subst hi
        · refine g_plain rfl ?_
          exact does_value (w' := W) (v := .agg zd) (by go_simp) ⟨.pointer none, .inr rfl, hS.step 0 (by decide)⟩
        · have E6 : a.tmps[6]? = some (.pointer (some ⟨G, 0, none⟩)) := (same_of hsame 6 (by rfl)).trans rfl
          refine g_plain rfl ?_
          exact does_load _ _ rfl G (by rw [eval_getD, E6]; rfl) _ hS.blk _ Try.underlying43 rfl HSF.out ⟨.pointer none, .inr rfl, hS.step 1 (by decide)⟩
        · have E2 : a.tmps[2]? = some (.pointer (some ⟨R, 0, none⟩)) := (same_of hsame 2 (by rfl)).trans rfl
          have E25 := hval 0 _ 25 rfl rfl (dep_of hdep 0 (by rfl))
          unfold dcVal at E25
          have n3 := not_yet hcl hf 3 (by rfl)
          refine g_plain rfl ?_
          exact does_store 28 _ _ rfl R zd (by rw [eval_getD, E2]; rfl) (by rw [eval_getD, E25]; rfl) 28 _ (hS.pre n3).b0 HSA.out rfl HOZ.out ⟨.pointer none, .inl rfl, hS.store0 n3⟩
        · have E3 : a.tmps[3]? = some (.pointer (some ⟨R + 1, 0, none⟩)) := (same_of hsame 3 (by rfl)).trans rfl
          have E26 := hval 1 _ 26 rfl rfl (dep_of hdep 1 (by rfl))
          unfold dcVal at E26
          refine g_plain rfl ?_
          exact does_store 43 _ _ rfl (R + 1) _ (by rw [eval_getD, E3]; rfl) (by rw [eval_getD, E26]; rfl) 43 _ (hS.pre hf).b1 HSF.out rfl HOF.out ⟨.pointer none, .inl rfl, hS.store1 hf⟩
      · intro gh W hS
        have HP := hid (hS.post rfl)
        clear hS HSTART e0 e1 HK7 HR8
        simp only [putAll, dcVal, Nat.zero_add, Act.put, List.setIfInBounds_toArray, List.set_cons_zero, List.set_cons_succ]
        go_wp2_with fail
        exact bodyPost_ret (HP.out.ret HZS.out _ rfl rfl) rfl (HBD0.out _ HP.out.bel)
end Go.Proofs.Ytljnpaikjljmbaa
