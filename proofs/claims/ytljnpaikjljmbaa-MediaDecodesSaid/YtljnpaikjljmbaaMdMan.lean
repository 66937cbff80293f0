/- Contract: a manifest that is read. -/
import Derived.Test.YtljnpaikjljmbaaMdLst
namespace Go.Proofs.Ytljnpaikjljmbaa
open Go.RowKit

def nilV : Value := .slice none 0 0
/-- a manifest that is read, behind its kind k -/
def manB (bs : List UInt8) (k : Nat) (s : RS) (rf : Nat × Nat) : MM × RS × (Nat × Nat) :=
  if k = 3 then (⟨3, (sizedS bs 4096 s).1, (dscR bs (sizedS bs 4096 s).2).1, (lstR bs (dscR bs (sizedS bs 4096 s).2).2 rf 16).1, []⟩, (lstR bs (dscR bs (sizedS bs 4096 s).2).2 rf 16).2)
  else if k = 4 then (⟨4, (sizedS bs 4096 s).1, zeroD, [], (lstR bs (sizedS bs 4096 s).2 rf 8).1⟩, (lstR bs (sizedS bs 4096 s).2 rf 8).2)
  else (⟨(k : Int), (sizedS bs 4096 s).1, zeroD, [], []⟩, (sizedS bs 4096 s).2, rf)
def manR (bs : List UInt8) (s : RS) (rf : Nat × Nat) : MM × RS × (Nat × Nat) :=
  manB bs (numS bs maxI 0 (numS bs maxI 0 s).2).1 (numS bs maxI 0 (numS bs maxI 0 s).2).2 (kind2 bs (numS bs maxI 0 s).2 (kind1 bs s rf))
theorem manB_id (bs : List UInt8) (k : Nat) (s : RS) (rf : Nat × Nat) : (manB bs k s rf).1.c.id.length = 32 := by
  unfold manB
  split
  · exact dscR_id _ _
  · split <;> rfl
theorem mcs_one (m : MM) (v1 v2 : Value) (h1 : v1.oneCell' = true) (h2 : v2.oneCell' = true) : (mcs m v1 v2).toArray.toList.all (·.oneCell') = true := by
  refine one_list ?_
  intro v hv
  simp only [mcs, List.mem_cons, List.mem_append, List.not_mem_nil, or_false] at hv
  rcases hv with rfl | rfl | hv | rfl | rfl
  · rfl
  · rfl
  · exact dcs_one _ v hv
  · exact h1
  · exact h2
theorem mcs_set1 (m : MM) (v1 v2 : Value) (x : List UInt8) : (mcs m v1 v2).toArray.setIfInBounds 1 (.string (strB x)) = (mcs { m with t := x } v1 v2).toArray := by
  rw [List.setIfInBounds_toArray]; rfl
theorem mcs_set37 {m : MM} (h : m.c.id.length = 32) (v1 v2 v : Value) : (mcs m v1 v2).toArray.setIfInBounds 37 v = (mcs m v v2).toArray := by
  have e : mcs m v1 v2 = (.int .i64 m.k :: .string (strB m.t) :: dcs m.c) ++ [v1, v2] := by simp [mcs]
  have hl := dcs_length h
  rw [List.setIfInBounds_toArray, e, List.set_append_right _ _ (by simp [hl])]
  simp [mcs, hl]
theorem mcs_set38 {m : MM} (h : m.c.id.length = 32) (v1 v2 v : Value) : (mcs m v1 v2).toArray.setIfInBounds 38 v = (mcs m v1 v).toArray := by
  have e : mcs m v1 v2 = (.int .i64 m.k :: .string (strB m.t) :: dcs m.c) ++ [v1, v2] := by simp [mcs]
  have hl := dcs_length h
  rw [List.setIfInBounds_toArray, e, List.set_append_right _ _ (by simp [hl])]
  simp [mcs, hl]
/-- lists do not matter for the cells but by their values -/
theorem mcs_lists (k : Int) (t : List UInt8) (c : DD) (l u l' u' : List DD) (v1 v2 : Value) : mcs ⟨k, t, c, l, u⟩ v1 v2 = mcs ⟨k, t, c, l', u'⟩ v1 v2 := rfl
theorem run_build_man (n : Int) (W : World) : (Instr.build 28 #[(0, .int .i64 n)]).run Try.prog W = .ok (.agg (mcs ⟨n, [], zeroD, [], []⟩ nilV nilV).toArray) W := by kernel_rfl
theorem size_man2 (m : MM) (h : m.c.id.length = 32) (v1 v2 : Value) : zmc.size = (mcs m v1 v2).toArray.size := by rw [zmc_size, List.size_toArray, mcs_length h]
/-- what a manifest that is read comes with -/
def ManP (w : World) (base q g f : Nat) (r : Option Nat) (bs : List UInt8) (R : MM × RS × (Nat × Nat)) (e : Ending) (w' : World) : Prop :=
  ∃ v1 v2, e = .returned (.agg (mcs R.1 v1 v2).toArray) ∧ OwnD w' w.heap.size v1 R.1.l ∧ OwnD w' w.heap.size v2 R.1.u ∧ (v1 = nilV ∨ v2 = nilV) ∧ SrcP w base q g f r bs R.2.1 R.2.2 w'
theorem OwnD.form {w : World} {base : Nat} {v : Value} {ds : List DD} (h : OwnD w base v ds) : ∃ A n c, v = .slice A n c := by
  rcases h.2 with ⟨rfl, _⟩ | ⟨g', cap, cur, rfl, _⟩
  · exact ⟨_, _, _, rfl⟩
  · exact ⟨_, _, _, rfl⟩
theorem OwnD.ne {w : World} {D : Nat} {v : Value} {ds : List DD} (h : OwnD w (D + 1) v ds) {b : Nat} (hb : b ≤ D) : v.ownBlock ≠ some b := fun e => by
  have := (World.ownsRow.lt h b e).1
  omega
section
variable {w W W' : World} {base q g f : Nat} {r : Option Nat} {bs : List UInt8} {s' : RS} {rf' : Nat × Nat} {R D : Nat} {zd : Array Value} {m : MM} {v1 v2 : Value} {MR : MM × RS × (Nat × Nat)}
/-- the result is written -/
theorem man_ret (h : Mid2 w W base q g f r bs s' rf' R D 28 28 zd (mcs m v1 v2).toArray) (hMR : MR = (m, s', rf')) (hRD : R < D) (ho1 : OwnD W (D + 1) v1 m.l) (ho2 : OwnD W (D + 1) v2 m.u) (hn : v1 = nilV ∨ v2 = nilV) : ManP w base q g f r bs MR (.returned (.agg (mcs m v1 v2).toArray)) (W.setRow R (mcs m v1 v2).toArray) := by
  subst hMR
  have hc := chg_row W R (mcs m v1 v2).toArray
  have hD := h.hD
  exact ⟨v1, v2, rfl, (ho1.chg hc (fun b e hm => ho1.ne (show R ≤ D by omega) (by simp at hm; rw [← hm]; exact e))).lower (by omega), (ho2.chg hc (fun b e hm => ho2.ne (show R ≤ D by omega) (by simp at hm; rw [← hm]; exact e))).lower (by omega), hn, h.fin hc⟩
end
set_option maxRecDepth 20000 in
set_option maxHeartbeats 3000000 in
theorem src_man (base q g f : Nat) (r : Option Nat) (bs : List UInt8) (s : RS) (rf : Nat × Nat) (w : World) (h : SrcB w base q g f r bs s rf) :
    Calls Try.prog 44 #[.pointer (some ⟨q, 0, none⟩)] w (ManP w base q g f r bs (manR bs s rf)) := by
  have HN1 := hid (fun W (h : SrcB W base q g f r bs s rf) => src_kind base q g f r bs s rf W h)
  have hR : manR bs s rf = manB bs (numS bs maxI 0 (numS bs maxI 0 s).2).1 (numS bs maxI 0 (numS bs maxI 0 s).2).2 (kind2 bs (numS bs maxI 0 s).2 (kind1 bs s rf)) := rfl
  generalize manR bs s rf = MR at hR ⊢
  generalize kind2 bs (numS bs maxI 0 s).2 (kind1 bs s rf) = rf2 at HN1 hR
  generalize numS bs maxI 0 (numS bs maxI 0 s).2 = q2 at HN1 hR
  have HR := hid hR
  have HN2 := hid (fun W (h : SrcB W base q g f r bs q2.2 rf2) => src_text base q g f r bs q2.2 rf2 W h)
  have HMB := hid (show manB bs q2.1 q2.2 rf2 = if q2.1 = 3 then (⟨3, (sizedS bs 4096 q2.2).1, (dscR bs (sizedS bs 4096 q2.2).2).1, (lstR bs (dscR bs (sizedS bs 4096 q2.2).2).2 rf2 16).1, []⟩, (lstR bs (dscR bs (sizedS bs 4096 q2.2).2).2 rf2 16).2)
    else if q2.1 = 4 then (⟨4, (sizedS bs 4096 q2.2).1, zeroD, [], (lstR bs (sizedS bs 4096 q2.2).2 rf2 8).1⟩, (lstR bs (sizedS bs 4096 q2.2).2 rf2 8).2)
    else (⟨(q2.1 : Int), (sizedS bs 4096 q2.2).1, zeroD, [], []⟩, (sizedS bs 4096 q2.2).2, rf2) from rfl)
  generalize sizedS bs 4096 q2.2 = q3 at HN2 HMB
  rw [← hR] at HMB
  have b1 := below_new w (.cells zmc 28)
  have k1 := Blk.new w 28 zmc
  have hz1 := size_new w (.cells zmc 28)
  have hz := (zero_of_info infoM).1
  have HLT := hid h.lt
  have H1 := hid (h.keep b1)
  have HSZ := hid (fun m (h : m.c.id.length = 32) v1 v2 => size_man2 m h v1 v2)
  have HSA0 : Hid ((Try.prog.info? 28).map (·.size) = some (mcs ⟨(q2.1 : Int), [], zeroD, [], []⟩ nilV nilV).toArray.size) := size_man rfl _ _
  have HOA0 := hid (mcs_one ⟨(q2.1 : Int), [], zeroD, [], []⟩ nilV nilV rfl rfl)
  have HBT := hid (fun W => run_build_man (q2.1 : Int) W)
  have HZ0 := hid (HSZ.out ⟨(q2.1 : Int), [], zeroD, [], []⟩ rfl nilV nilV)
  generalize zmc = zd at b1 k1 hz1 hz H1 HSZ HZ0
  clear h hR
  go_enter Try.func44, Try.ntmps44
  go_wp2_with fail
  generalize hR0 : w.heap.size = R at k1 ⊢
  generalize w.alloc (.cells zd 28) = w1 at b1 k1 hz1 H1 ⊢
  have HR0 := hid hR0
  have B1 := hid b1; have K1 := hid k1
  clear b1 k1 hR0
  refine (HN1.out w1 H1.out).mono ?_
  rintro _ w2 ⟨rfl, hp2⟩
  have hsz2 := hp2.2.size
  have K2 := hid (K1.out.chg hp2.2 (src_new (w0 := w) HLT.out (by have := HR0.out; omega)))
  have C2 := hid ((Chg.of_below (L := [q, g, f]) B1.out).trans hp2.2 (fun _ hb => .inl hb))
  have H2 := hid hp2.1
  have KZ := hid (Blk.new w2 28 zd)
  have HNS := hid (new_set w2 28 zd (mcs ⟨(q2.1 : Int), [], zeroD, [], []⟩ nilV nilV).toArray)
  clear hp2 HN1
  go_wp2_with (first | (refine wpList_build1 rfl 28 0 _ rfl (.int .i64 (q2.1 : Int)) _ rfl HBT.out ?_) | ((refine wpList_store_blk rfl 28 _ _ rfl w2.heap.size _ rfl rfl 28 _ KZ.out HSA0.out HZ0.out HOA0.out ?_); refine Held.go ?_))
  obtain ⟨b3, k3⟩ := HNS.out
  generalize (w2.alloc (.cells zd 28)).setRow w2.heap.size (mcs ⟨(q2.1 : Int), [], zeroD, [], []⟩ nilV nilV).toArray = w3 at b3 k3 ⊢
  have hRD : R ≠ w2.heap.size := by have := HR0.out; have := B1.out.size; omega
  have hRw : w.heap.size ≤ R := by have := HR0.out; omega
  have hDw : w.heap.size ≤ w2.heap.size := by have := B1.out.size; omega
  have HRl := hid (show R < w2.heap.size from by have := HR0.out; omega)
  generalize w2.heap.size = D at k3 hRD hDw HRl ⊢
  have HM3 := hid (show Mid2 w w3 base q g f r bs q2.2 rf2 R D 28 28 zd (mcs ⟨(q2.1 : Int), [], zeroD, [], []⟩ nilV nilV).toArray from
    ⟨H2.out.keep b3, C2.out.trans (Chg.of_below (L := []) b3) (fun _ hb => by cases hb), HLT.out, hRw, K2.out.keep b3, hDw, k3, hRD⟩)
  clear b3 k3 HNS KZ K2 C2 H2 HSA0 HOA0 HBT HZ0 K1 B1 H1 hz hRD hRw hDw
  unfold Held
  go_wp2_with fail
  refine (HN2.out w3 HM3.out.src).mono ?_
  rintro _ w4 ⟨rfl, hp⟩
  have HM4 := hid (HM3.out.call hp)
  have d1 := HM4.out.bD.cell 1 (by rw [List.getElem?_toArray]; exact mcs_1 _ _ _)
  have f1 := HM4.out.bD.frozen 1
  have HM5 := hid (show Mid2 w (w4.setCell ⟨D, 1, none⟩ (.string (strB q3.1))) base q g f r bs q3.2 rf2 R D 28 28 zd (mcs ⟨(q2.1 : Int), q3.1, zeroD, [], []⟩ nilV nilV).toArray from
    HM4.out.upd (chg_set (L := [D]) (by simp) 1 _) (by have := HM4.out.bD.set_ 1 (.string (strB q3.1)); rw [mcs_set1] at this; exact this))
  have d0 := HM5.out.bD.cell 0 (by rw [List.getElem?_toArray]; exact mcs_0 _ _ _)
  dsimp only at d0 d1
  clear hp HN2 HM3
  generalize hst : strB q3.1 = st at HM5 d0 ⊢
  have HST := hid hst
  clear hst
  generalize hw5 : w4.setCell ⟨D, 1, none⟩ (.string st) = w5 at HM5 d0
  generalize q2.1 = kk at HMB HM4 HM5 d0 d1
  by_cases e3 : kk = 3
  · subst e3
    rw [show ((3 : Nat) : Int) = 3 from rfl] at d0 HM5
    have HDS := hid (src_desc base q g f r bs q3.2 rf2 w5 HM5.out.src)
    have HE := hid (show MR = (⟨3, q3.1, (dscR bs q3.2).1, (lstR bs (dscR bs q3.2).2 rf2 16).1, []⟩, (lstR bs (dscR bs q3.2).2 rf2 16).2) from by rw [HMB.out, if_pos rfl])
    have H32 := hid (dscR_id bs q3.2)
    have HLS := hid (fun W (h : SrcB W base q g f r bs (dscR bs q3.2).2 rf2) => src_descs base q g f r bs (dscR bs q3.2).2 rf2 16 (by omega) W h)
    generalize dscR bs q3.2 = DR at HDS HE H32 HLS
    generalize lstR bs DR.2 rf2 16 = LR at HLS HE
    clear HM4
    go_wp2_with fail
    clear hw5 d1 f1
    refine HDS.out.mono ?_
    rintro _ w6 ⟨rfl, hp⟩
    have HM6 := hid (HM5.out.call hp)
    have KP := hid (show Blk w6 D 28 (part [.int .i64 3, .string (strB q3.1)] (dcs zeroD) [nilV, nilV]) from by have := HM6.out.bD; rw [mcs_part] at this; exact this)
    have HSI := hid (size_desc H32.out)
    have HLL := hid (show (dcs DR.1).length = (dcs zeroD).length from by rw [dcs_length H32.out, dcs_length zeroD_id])
    have HON := hid (dcs_one DR.1)
    clear hp HDS HM5 d0
    go_wp2_with ((refine wpList_store_part rfl 25 _ _ rfl D 2 (dcs DR.1) rfl rfl KP.out rfl HSI.out HLL.out HON.out ?_); refine Held.go ?_)
    have HM7 := hid (show Mid2 w (w6.setRow D (part [.int .i64 3, .string (strB q3.1)] (dcs DR.1) [nilV, nilV])) base q g f r bs DR.2 rf2 R D 28 28 zd (mcs ⟨3, q3.1, DR.1, [], []⟩ nilV nilV).toArray from
      HM6.out.upd (chg_row _ _ _) (by have := HM6.out.bD.setRow (part [.int .i64 3, .string (strB q3.1)] (dcs DR.1) [nilV, nilV]); rw [mcs_part]; exact this))
    generalize w6.setRow D (part [.int .i64 3, .string (strB q3.1)] (dcs DR.1) [nilV, nilV]) = w7 at HM7 ⊢
    clear KP HSI HLL HON HM6
    unfold Held
    go_wp2_with fail
    refine (HLS.out w7 HM7.out.src).mono ?_
    rintro _ w8 ⟨v, rfl, ho, hp⟩
    obtain ⟨Av, nv, cv, rfl⟩ := ho.form
    have HM8 := hid (HM7.out.call hp)
    have HO8 := hid (ho.lower (base' := D + 1) (by have := HM7.out.bD.lt; omega))
    have d37 := HM8.out.bD.cell 37 (by rw [List.getElem?_toArray]; exact mcs_37 H32.out _ _)
    have f37 := HM8.out.bD.frozen 37
    have HM9 := hid (show Mid2 w (w8.setCell ⟨D, 37, none⟩ (.slice Av nv cv)) base q g f r bs LR.2.1 LR.2.2 R D 28 28 zd (mcs ⟨3, q3.1, DR.1, LR.1, []⟩ (.slice Av nv cv) nilV).toArray from
      HM8.out.upd (chg_set (L := [D]) (by simp) 37 _) (by have := HM8.out.bD.set_ 37 (.slice Av nv cv); rw [mcs_set37 H32.out] at this; exact this))
    have HO9 := hid (HO8.out.chg (chg_set (w := w8) (d := D) (L := [D]) (by simp) 37 (.slice Av nv cv)) (fun b e hm => HO8.out.ne (Nat.le_refl D) (by simp at hm; rw [← hm]; exact e)))
    clear hp ho HLS HM7 HM8 HO8
    have HSAF : Hid ((Try.prog.info? 28).map (·.size) = some (mcs ⟨3, q3.1, DR.1, LR.1, []⟩ (.slice Av nv cv) nilV).toArray.size) := size_man H32.out _ _
    have HSZF := hid (HSZ.out ⟨3, q3.1, DR.1, LR.1, []⟩ H32.out (.slice Av nv cv) nilV)
    have HOF := hid (mcs_one ⟨3, q3.1, DR.1, LR.1, []⟩ (.slice Av nv cv) nilV rfl rfl)
    have HRUN := hid (run_loadVar_row (P := Try.prog) (w8.setCell ⟨D, 37, none⟩ (.slice Av nv cv)) D _ 28 _ (0, 0) _ HM9.out.bD Try.underlying28 rfl HSAF.out)
    have HFIN := hid (man_ret HM9.out HE.out HRl.out HO9.out (OwnD.nil _ _) (.inr rfl))
    have KF := hid (HM9.out.bR.setRow (mcs ⟨3, q3.1, DR.1, LR.1, []⟩ (.slice Av nv cv) nilV).toArray)
    have KR := hid HM9.out.bR
    clear HSZ HR HMB
    generalize (mcs ⟨3, q3.1, DR.1, LR.1, []⟩ (.slice Av nv cv) nilV).toArray = cF at HRUN HOF HSZF HFIN HSAF KF
    go_wp2_with (first | (refine wpList_load_run rfl 28 _ rfl _ _ rfl HRUN.out ?_) | ((refine wpList_store_blk rfl 28 _ _ rfl R _ rfl rfl 28 _ KR.out HSAF.out HSZF.out HOF.out ?_); refine Held.go ?_))
    generalize (w8.setCell ⟨D, 37, none⟩ (.slice Av nv cv)).setRow R cF = w9 at KF HFIN ⊢
    unfold Held
    go_wp2_with fail
    refine bodyPost_ret (v := .agg cF) (results_cell_row rfl _ _ R 28 _ (0, 0) _ rfl KF.out Try.underlying28 rfl HSAF.out) rfl HFIN.out
  · by_cases e4 : kk = 4
    · subst e4
      rw [show ((4 : Nat) : Int) = 4 from rfl] at d0 HM5
      have HE := hid (show MR = (⟨4, q3.1, zeroD, [], (lstR bs q3.2 rf2 8).1⟩, (lstR bs q3.2 rf2 8).2) from by rw [HMB.out, if_neg (by omega), if_pos rfl])
      have HLS := hid (src_descs base q g f r bs q3.2 rf2 8 (by omega) w5 HM5.out.src)
      generalize lstR bs q3.2 rf2 8 = LR at HLS HE
      clear HM4
      go_wp2_with fail
      clear hw5 d1 f1
      refine HLS.out.mono ?_
      rintro _ w8 ⟨v, rfl, ho, hp⟩
      obtain ⟨Av, nv, cv, rfl⟩ := ho.form
      have HM8 := hid (HM5.out.call hp)
      have HO8 := hid (ho.lower (base' := D + 1) (by have := HM5.out.bD.lt; omega))
      have d38 := HM8.out.bD.cell 38 (by rw [List.getElem?_toArray]; exact mcs_38 zeroD_id _ _)
      have f38 := HM8.out.bD.frozen 38
      have HM9 := hid (show Mid2 w (w8.setCell ⟨D, 38, none⟩ (.slice Av nv cv)) base q g f r bs LR.2.1 LR.2.2 R D 28 28 zd (mcs ⟨4, q3.1, zeroD, [], LR.1⟩ nilV (.slice Av nv cv)).toArray from
        HM8.out.upd (chg_set (L := [D]) (by simp) 38 _) (by have := HM8.out.bD.set_ 38 (.slice Av nv cv); rw [mcs_set38 zeroD_id] at this; exact this))
      have HO9 := hid (HO8.out.chg (chg_set (w := w8) (d := D) (L := [D]) (by simp) 38 (.slice Av nv cv)) (fun b e hm => HO8.out.ne (Nat.le_refl D) (by simp at hm; rw [← hm]; exact e)))
      clear hp ho HLS HM5 HM8 HO8 d0
      have HSAF : Hid ((Try.prog.info? 28).map (·.size) = some (mcs ⟨4, q3.1, zeroD, [], LR.1⟩ nilV (.slice Av nv cv)).toArray.size) := size_man zeroD_id _ _
      have HSZF := hid (HSZ.out ⟨4, q3.1, zeroD, [], LR.1⟩ zeroD_id nilV (.slice Av nv cv))
      have HOF := hid (mcs_one ⟨4, q3.1, zeroD, [], LR.1⟩ nilV (.slice Av nv cv) rfl rfl)
      have HRUN := hid (run_loadVar_row (P := Try.prog) (w8.setCell ⟨D, 38, none⟩ (.slice Av nv cv)) D _ 28 _ (0, 0) _ HM9.out.bD Try.underlying28 rfl HSAF.out)
      have HFIN := hid (man_ret HM9.out HE.out HRl.out (OwnD.nil _ _) HO9.out (.inl rfl))
      have KF := hid (HM9.out.bR.setRow (mcs ⟨4, q3.1, zeroD, [], LR.1⟩ nilV (.slice Av nv cv)).toArray)
      have KR := hid HM9.out.bR
      clear HSZ HR HMB
      generalize (mcs ⟨4, q3.1, zeroD, [], LR.1⟩ nilV (.slice Av nv cv)).toArray = cF at HRUN HOF HSZF HFIN HSAF KF
      go_wp2_with (first | (refine wpList_load_run rfl 28 _ rfl _ _ rfl HRUN.out ?_) | ((refine wpList_store_blk rfl 28 _ _ rfl R _ rfl rfl 28 _ KR.out HSAF.out HSZF.out HOF.out ?_); refine Held.go ?_))
      generalize (w8.setCell ⟨D, 38, none⟩ (.slice Av nv cv)).setRow R cF = w9 at KF HFIN ⊢
      unfold Held
      go_wp2_with fail
      refine bodyPost_ret (v := .agg cF) (results_cell_row rfl _ _ R 28 _ (0, 0) _ rfl KF.out Try.underlying28 rfl HSAF.out) rfl HFIN.out
    · have e3' : ¬ (kk : Int) = 3 := by omega
      have e4' : ¬ (kk : Int) = 4 := by omega
      have HE := hid (show MR = (⟨(kk : Int), q3.1, zeroD, [], []⟩, q3.2, rf2) from by rw [HMB.out, if_neg e3, if_neg e4])
      generalize (kk : Int) = zk at e3' e4' HE HM5 d0 ⊢
      clear HM4
      have HSAF : Hid ((Try.prog.info? 28).map (·.size) = some (mcs ⟨zk, q3.1, zeroD, [], []⟩ nilV nilV).toArray.size) := size_man zeroD_id _ _
      have HSZF := hid (HSZ.out ⟨zk, q3.1, zeroD, [], []⟩ zeroD_id nilV nilV)
      have HOF := hid (mcs_one ⟨zk, q3.1, zeroD, [], []⟩ nilV nilV rfl rfl)
      have HRUN := hid (run_loadVar_row (P := Try.prog) w5 D _ 28 _ (0, 0) _ HM5.out.bD Try.underlying28 rfl HSAF.out)
      have HFIN := hid (man_ret HM5.out HE.out HRl.out (OwnD.nil _ _) (OwnD.nil _ _) (.inl rfl))
      have KF := hid (HM5.out.bR.setRow (mcs ⟨zk, q3.1, zeroD, [], []⟩ nilV nilV).toArray)
      have KR := hid HM5.out.bR
      clear HSZ HR HMB
      generalize (mcs ⟨zk, q3.1, zeroD, [], []⟩ nilV nilV).toArray = cF at HRUN HOF HSZF HFIN HSAF KF
      go_wp2_with (first | (refine wpList_load_run rfl 28 _ rfl _ _ rfl HRUN.out ?_) | ((refine wpList_store_blk rfl 28 _ _ rfl R _ rfl rfl 28 _ KR.out HSAF.out HSZF.out HOF.out ?_); refine Held.go ?_))
      generalize w5.setRow R cF = w9 at KF HFIN ⊢
      unfold Held
      go_wp2_with fail
      refine bodyPost_ret (v := .agg cF) (results_cell_row rfl _ _ R 28 _ (0, 0) _ rfl KF.out Try.underlying28 rfl HSAF.out) rfl HFIN.out
end Go.Proofs.Ytljnpaikjljmbaa
