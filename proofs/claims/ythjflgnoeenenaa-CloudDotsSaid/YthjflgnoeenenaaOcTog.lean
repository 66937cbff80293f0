/- Contracts of clouds: dots of two lists, together. -/
import Derived.Test.YthjflgnoeenenaaOcMrg
import Derived.Test.YthjflgnoeenenaaOcDrf
namespace Go.Proofs.Ythjflgnoeenenaa
open Go Go.RowKit Go.Shelf Cl
attribute [local go_sem] Oper.semAt_some vc_mkf

theorem wpListIn_append_dots {F : Fence} {nF : Nat} {ops : Array Oper} {rest : List Oper} {o : Oper} {a : Act} {w : World} {Q : Exit → Act → World → Prop} (hgd : o.guard = none) (s x : Operand)
    (ho : o.op = .call { callee := .builtin .append, args := #[s, x], argTypes := #[23, 23] })
    (base : Nat) (v : Value) (n : Nat) (zs : List Dt) (hv : a.eval s = v) (hown : OwnD w base v n zs) (A : Option Addr) (m c : Nat) (ys : List Dt) (hx : a.eval x = .slice A m c) (hs : ND w A m ys)
    (hlen : n + m ≤ 1099511627776) (hbase : base ≤ w.heap.size)
    (h : ∀ v' w', OwnD w' base v' (n + m) (zs ++ ys) → w.grownBy w' v.ownBlock → (v'.ownBlock = v.ownBlock ∨ v'.ownBlock = some w.heap.size) → wpListIn F nF Try.prog ops Q rest (a.put o.dst v') w') :
    wpListIn F nF Try.prog ops Q (o :: rest) a w := by
  refine wpListIn_plain hgd fun K hK => ?_
  obtain ⟨v', w', hr, h2, h3, h4⟩ := run_append_dots w o.type base v n zs hown A m c ys hs hlen hbase
  unfold Oper.wpIn
  refine ⟨by simp [Oper.about, ho, resolve, Target.leads, Sem.run_pure], ?_⟩
  rw [Oper.semAt_plain F _ _ (by rw [ho]; intro c hc'; cases hc')]
  simp [execOp, ho, resolve, invoke, builtin, hv, hx, hr, Result.andThen]
  exact hK _ _ (h v' w' h2 h3 h4)
def Aof (A : Option Addr) (n b : Nat) : Prop := ∃ off, A = some ⟨b, off, none⟩ ∧ 0 < n
theorem nd_lt {w : World} {A : Option Addr} {n : Nat} {ds : List Dt} (h : ND w A n ds) {b : Nat} (hb : Aof A n b) : b < w.heap.size := by
  obtain ⟨off, e, hn⟩ := hb
  obtain ⟨b2, o2, d, e2, _, hc, _⟩ := h.at_ hn
  rw [e] at e2
  cases e2
  exact lt_of_cell hc
theorem mg_setup (base n c m e : Nat) (A B : Option Addr) (la lb : List Dt) (w : World) (h1 : ND w A n la) (h2 : ND w B m lb) (hnc : n ≤ c) (hme : m ≤ e) (hb : base ≤ w.heap.size) {W : World}
    (hW : W = (((w.alloc (.cells #[.slice A n c] 23)).alloc (.cells #[.slice B m e] 23)).alloc (.cells #[srcV w.heap.size] 77)).alloc (.cells #[srcV (w.heap.size + 1)] 77)) :
    MgP base (w.heap.size + 2) (w.heap.size + 3) w.heap.size (w.heap.size + 1) (Aof A n) (Aof B m) W.heap.size ∧ MgW (w.heap.size + 2) (w.heap.size + 3) w.heap.size (w.heap.size + 1) (Aof A n) (Aof B m) la lb W ∧ W.heap.size = w.heap.size + 4 ∧ Below w.heap.size w W := by
  have b1 := below_new w (.cells #[.slice A n c] 23)
  have k1 := Blk.new w 23 #[.slice A n c]
  have s1 := size_new w (.cells #[.slice A n c] 23)
  obtain ⟨w1, hw1⟩ : ∃ w1, w.alloc (.cells #[.slice A n c] 23) = w1 := ⟨_, rfl⟩
  rw [hw1] at b1 k1 s1 hW
  have b2 := below_new w1 (.cells #[.slice B m e] 23)
  have k2 := Blk.new w1 23 #[.slice B m e]
  have s2 := size_new w1 (.cells #[.slice B m e] 23)
  obtain ⟨w2, hw2⟩ : ∃ w2, w1.alloc (.cells #[.slice B m e] 23) = w2 := ⟨_, rfl⟩
  rw [hw2] at b2 k2 s2 hW
  have b3 := below_new w2 (.cells #[srcV w.heap.size] 77)
  have k3 := Blk.new w2 77 #[srcV w.heap.size]
  have s3 := size_new w2 (.cells #[srcV w.heap.size] 77)
  obtain ⟨w3, hw3⟩ : ∃ w3, w2.alloc (.cells #[srcV w.heap.size] 77) = w3 := ⟨_, rfl⟩
  rw [hw3] at b3 k3 s3 hW
  have b4 := below_new w3 (.cells #[srcV (w.heap.size + 1)] 77)
  have k4 := Blk.new w3 77 #[srcV (w.heap.size + 1)]
  have s4 := size_new w3 (.cells #[srcV (w.heap.size + 1)] 77)
  rw [← hW] at b4 k4 s4
  have bb : Below w.heap.size w W := b1.trans ((b2.trans ((b3.trans (b4.mono b3.size)).mono b2.size)).mono b1.size)
  have l1 := h1.1; have l2 := h2.1
  refine ⟨⟨by omega, hb, by omega, by omega, ⟨by omega, by omega, by omega⟩, ⟨by omega, by omega, by omega⟩, by omega, by omega, fun b h => ?_, fun b h => ?_⟩, ⟨?_, ?_, ?_, ?_⟩, by omega, bb⟩
  · have := nd_lt h1 h; omega
  · have := nd_lt h2 h; omega
  · have := k3.keep b4
    rw [show w2.heap.size = w.heap.size + 2 by omega] at this
    exact this
  · rw [show w3.heap.size = w.heap.size + 3 by omega] at k4
    exact k4
  · refine ⟨A, c, by rw [l1]; exact ((k1.keep b2).keep b3).keep b4, by omega, by rw [l1]; exact h1.keep bb, fun b off e0 hn => ⟨off, e0, by omega⟩⟩
  · refine ⟨B, e, ?_, by omega, by rw [l2]; exact h2.keep bb, fun b off e0 hn => ⟨off, e0, by omega⟩⟩
    have := (k2.keep b3).keep b4
    rw [s1] at this
    rw [l2]; exact this
/-- what the loop of together keeps: its box L, its list -/
structure TgI (w : World) (C : Nat → Prop) (pre : List Mi) (W : World) : Prop where
  own : C w.heap.size
  bel : Below w.heap.size w W
  ex : ∃ vd, Blk W w.heap.size 23 #[vd] ∧ OwnD W (w.heap.size + 1) vd pre.length (pre.map (·.1)) ∧ ∀ b, vd.ownBlock = some b → C b
theorem TgI.move {w : World} (C : Nat → Prop) (pre : List Mi) (A B : World) (h : TgI w C pre A) (k : MvC w.heap.size C A B) : TgI w C pre B := by
  obtain ⟨vd, h1, h2, h3⟩ := h.ex
  refine ⟨h.own, k.below h.bel (Nat.le_refl _) h.bel.size, vd, (k.block _ h1.lt (.inl h.own)).trans h1, ?_, h3⟩
  obtain ⟨g1, g2, g3 | ⟨g, cap, cur, hv, hb, hg, r⟩⟩ := h2
  · exact ⟨g1, g2, .inl g3⟩
  · exact ⟨g1, g2, .inr ⟨g, cap, cur, hv, hb, (k.block g (Array.getElem?_eq_some_iff.1 hg).1 (.inl (h3 g (by rw [hv]; rfl)))).trans hg, r⟩⟩
theorem load_slT (w : World) (ad : Addr) (v : Value) (h : w.cell? ad = some v) : (loadVar 23 ad).run Try.prog w = .ok v w := by
  have hagg : (isAgg 23).run Try.prog w = .ok false w := by
    unfold isAgg
    rw [Sem.run_bind, run_underlying Try.underlying23 w]
    simp
  simp [loadVar, Sem.run_bind, hagg, h]
set_option maxRecDepth 100000 in
set_option maxHeartbeats 4000000 in
theorem ocTog_calls (n c m e : Nat) (A B : Option Addr) (la lb : List Dt) (w : World) (h1 : ND w A n la) (h2 : ND w B m lb) (hn : n + m ≤ 900000) (hnc : n ≤ c) (hme : m ≤ e) (da : dots la) (db : dots lb) :
    Calls Try.prog 56 #[.slice A n c, .slice B m e] w fun x w' => ∃ v, x = .returned v ∧ OwnD w' w.heap.size v (mrg la lb).length ((mrg la lb).map (·.1)) ∧ Below w.heap.size w w' := by
  have hzd := (zero_of_info info_dot0).1
  obtain ⟨w1, hw1⟩ : ∃ w1, w.alloc (.cells #[.slice none 0 0] 23) = w1 := ⟨_, rfl⟩
  have hb1 := below_new w (.cells #[.slice none 0 0] 23)
  have hk1 := Blk.new w 23 #[.slice none 0 0]
  have hs1 := size_new w (.cells #[.slice none 0 0] 23)
  rw [hw1] at hb1 hk1 hs1
  have HST := hid (fun W => @mg_setup w.heap.size n c m e A B la lb w1 (h1.keep hb1) (h2.keep hb1) hnc hme hb1.size W)
  have HW1 := hid hw1; have HB1 := hid hb1; have HK1 := hid hk1; have HS1 := hid hs1
  have HND1 := hid h1; have HND2 := hid h2; have HDA := hid da; have HDB := hid db
  have HL1 := hid h1.1; have HL2 := hid h2.1
  have HML := hid (mrg_len _ la lb (Nat.le_refl _) da db)
  have HEG := hid (enters_of Try.func78 (by kernel_rfl) rfl)
  clear h1 h2 da db hw1 hb1 hk1 hs1
  refine (callsIn_wide (n := 3)).1 (callsIn_of_wp_marks Try.func56 rfl trivial (wpIn_wide.2 ?_))
  simp only [Try.ntmps56, List.size_toArray, List.length_cons, List.length_nil, Nat.reduceAdd, Nat.reduceSub, Array.replicate_succ, Array.replicate_zero, List.push_toArray, List.append_toArray, List.nil_append, List.cons_append]
  go_wp2_with fail
  rw [HW1.out]
  refine (ocEach_calls n c A w1).mono ?_
  rintro x W2 ⟨rfl, hw2⟩
  have HW2 := hid hw2
  clear hw2
  go_wp2_with fail
  refine (ocEach_calls m e B W2).mono ?_
  rintro x W3 ⟨rfl, hw3⟩
  have HW3 := hid hw3
  have HSZ2 := hid (show W2.heap.size = w1.heap.size + 1 from by rw [HW2.out]; simp)
  rw [HSZ2.out]
  clear hw3
  go_wp2_with fail
  refine (ocMerge_calls _ _ _ _ W3).mono ?_
  rintro x W4 ⟨rfl, hw4⟩
  have HSZ3 := hid (show W3.heap.size = w1.heap.size + 2 from by rw [HW3.out]; simp; exact HSZ2.out)
  rw [HSZ3.out]
  have hst := HST.out W4 (by rw [hw4, HW3.out, HW2.out]; rfl)
  obtain ⟨hp, hmw, hs4, hb4⟩ := hst
  have HP := hid hp; have HM := hid hmw; have HS4 := hid hs4; have HB4 := hid hb4
  have HSQ := hid (ocMrg_seq 2 w.heap.size _ _ _ _ _ _ la lb W4 hp hmw HDA.out HDB.out (by have := HL1.out; omega) (by have := HL2.out; omega))
  have HWB := hid (HB1.out.trans (hb4.mono HB1.out.size))
  have HK4 := hid (HK1.out.keep hb4)
  clear hw4 hp hmw hs4 hb4
  obtain ⟨s1, hs1⟩ : ∃ s1, w1.heap.size = s1 := ⟨_, rfl⟩
  have HS1E := hid hs1
  rw [hs1] at HSQ HP HM ⊢
  clear hs1
  go_wp2_with fail
  rw [show s1 + 2 + 1 = s1 + 3 from rfl]
  have hwl : w.heap.size < W4.heap.size := by have := HS4.out; have := HS1.out; omega
  have HG := hid (show ∀ b, mgG (s1 + 2) (s1 + 3) s1 (s1 + 1) (Aof A n) (Aof B m) b → b < W4.heap.size ∧ b ≠ w.heap.size from fun b hb => by
    have h0 := HS1.out
    have h1 := HS1E.out
    refine ⟨mg_low HP.out hb, ?_⟩
    rcases hb with rfl | rfl | rfl | rfl | hb | hb
    · omega
    · omega
    · omega
    · omega
    · have := nd_lt HND1.out hb; omega
    · have := nd_lt HND2.out hb; omega)
  have h0 : TgI w (fun b => b = w.heap.size) [] W4 := ⟨rfl, HWB.out, _, HK4.out, OwnD.nil _ _, fun b e => by cases e⟩
  refine wpIn_wide.1 (rangeC (n := 3) (P := Try.prog) (encs := mEnc) rfl HEG.out HSQ.out (Below.refl _ _) (Nat.le_of_lt hwl) (fun b hb => (HG.out b hb).1) (fun _ => rfl) (TgI w) (fun _ _ _ => False) TgI.move (fun _ _ _ _ h _ => h) (fun b => b = w.heap.size) (fun b hb => ⟨fun h => (HG.out b h).2 hb, by rw [hb]; exact hwl⟩) h0
    (fun it a' W => ∃ g, a' = { tmps := #[.slice A n c, .slice B m e, undef, undef, .slice none 0 0, .pointer (some ⟨w.heap.size, 0, none⟩), .pointer (some ⟨g, 0, none⟩), .slice A n c, srcV s1, .slice B m e, srcV (s1 + 1), .func (.func 78) #[] #[.pointer (some ⟨s1 + 2, 0, none⟩), .pointer (some ⟨s1 + 3, 0, none⟩)], dvv it.1, .agg #[.bool it.2.1, .bool it.2.2], undef, undef, undef, undef, undef], defers := [] } ∧ Blk W g 27 (dcell it.1)) ?ax ?assign ?body ?done ?stop)
  case ax =>
    rintro x a' W o' hlt ⟨r, hr⟩ ⟨g, he, hg⟩
    refine ⟨g, he, (World.putObj_heap_other (fun e => ?_)).trans hg⟩
    have hg2 : W.heap[g]? = some (.cells (dcell x.1) 27 (0, 0)) := hg
    rw [e, hr] at hg2
    cases hg2
  case assign =>
    intro l x W K hK
    have HKK := hid (hK _ _ (below_new W (.cells (dcell x.1) 27)) ⟨W.heap.size, rfl, Blk.new W 27 (dcell x.1)⟩)
    clear hK HSQ HG HP HM HST HND1 HND2
    unfold mEnc dvv
    gi_wp2
    have h := HKK.out
    unfold srcV dvv dcell at h
    simpa using h
  case body =>
    rintro l C pre x post a' W hit hI ⟨g, rfl, hg⟩ hlo _
    obtain ⟨vd, hb5, hod, hvc⟩ := hI.ex
    obtain ⟨Av, cv, rfl, _, _, _⟩ := hod.nd
    obtain ⟨k, hk⟩ : ∃ k, pre.length = k := ⟨_, rfl⟩
    rw [hk] at hb5 hod hvc
    have hkb : k + 1 ≤ 900000 := by
      have h5 := HML.out
      have h6 : (mrg la lb).length = pre.length + (post.length + 1) := by rw [hit]; simp
      have := HL1.out; have := HL2.out
      omega
    have hszW : w.heap.size + 1 ≤ W.heap.size := by have := hb5.lt; omega
    have hb1 := below_new W (.cells #[.int .i64 x.1.1, .int .i64 x.1.2] 27)
    have HO1 := hid (hod.keep hb1); have HN1 := hid (nd_one W x.1); have HB1X := hid hb1; have HK5 := hid hb5; have HI := hid hI; have HVC := hid hvc; have HLO := hid hlo; have HKL := hid hk
    have HZ1 := hid (size_new W (.cells #[.int .i64 x.1.1, .int .i64 x.1.2] 27))
    have c5 : W.cell? ⟨w.heap.size, 0, none⟩ = some (.slice Av k cv) := hb5.cell 0 rfl
    have d0 : W.cell? ⟨g, 0, none⟩ = some (.int .i64 x.1.1) := hg.cell 0 rfl
    have d1 : W.cell? ⟨g, 1, none⟩ = some (.int .i64 x.1.2) := hg.cell 1 rfl
    clear hI hb5 hod hvc hlo hg hk hb1 hit HSQ HG HP HM HST HND1 HND2 h0
    gi_wp2_with (gi_at_builtin; refine wpListIn_append_dots rfl _ _ rfl (w.heap.size + 1) (.slice Av k cv) k (List.map (fun it : Mi => it.1) pre) rfl HO1.out (some ⟨W.heap.size, 0, none⟩) 1 1 [x.1] rfl HN1.out (by omega) (by have := HZ1.out; omega) ?_; intro v3 w3 ho hg3 hv3; refine Held.go ?_)
    obtain ⟨A3, c3, rfl, _, _, _⟩ := ho.nd
    have hL3 : (Value.slice Av k cv).ownBlock ≠ some w.heap.size := fun e => by have := (HO1.out.lt _ e).1; omega
    have hk3 := (HK5.out.keep HB1X.out).grown hg3 hL3
    have cL3 : w3.cell? ⟨w.heap.size, 0, none⟩ = some (.slice Av k cv) := hk3.cell 0 rfl
    have fL3 := hk3.frozen 0
    have hgs := grown_setCell w3 w.heap.size 0 (.slice A3 (k + 1) c3)
    have HEnd := hid (show ∃ C', KpC C C' W (w3.setCell ⟨w.heap.size, 0, none⟩ (.slice A3 (k + 1) c3)) ∧ TgI w C' (pre ++ [x]) (w3.setCell ⟨w.heap.size, 0, none⟩ (.slice A3 (k + 1) c3)) from by
      have hz := HZ1.out
      have hs3 := hg3.size
      have hss := hgs.size
      refine ⟨fun b => b = w.heap.size ∨ (Value.slice A3 (k + 1) c3).ownBlock = some b, ⟨by omega, fun b hb hn => ?_, fun b hb => ?_, fun b hb => ?_⟩, ⟨.inl rfl, ?_, _, ?_, ?_, fun b e => .inr e⟩⟩
      · have n1 : b ≠ w.heap.size := fun e => hn (by rw [e]; exact HI.out.own)
        have n2 : (Value.slice Av k cv).ownBlock ≠ some b := fun e => hn (HVC.out b e)
        exact (hgs.block b (by omega) (fun e => n1 (by injection e))).trans ((hg3.block b (by omega) (fun e => n2 e.symm)).trans (HB1X.out.block b hb))
      · rcases hb with rfl | hb
        · exact .inl HI.out.own
        · rcases hv3 with hv3 | hv3
          · rw [hv3] at hb; exact .inl (HVC.out b hb)
          · rw [hv3] at hb; injection hb with hb; exact .inr (by omega)
      · rcases hb with rfl | hb
        · omega
        · have := (ho.lt b hb).2; omega
      · refine ((HI.out.bel.trans (HB1X.out.mono HI.out.bel.size)).trans (below_of_grown hg3 (by omega) (fun b e => ?_))).trans (below_of_grown hgs (by omega) (fun b e => by injection e with e; omega))
        have := (HO1.out.lt b e).1; omega
      · have := hk3.set_ 0 (.slice A3 (k + 1) c3); simpa using this
      · rw [List.length_append, HKL.out, List.map_append]
        exact ho.kept hgs (.inr fun e => by have := (ho.lt _ e).1; omega))
    clear ho hg3 hv3 hk3 hgs HO1 HN1 HB1X HK5 HI HVC HLO c5 d0 d1
    unfold Held
    gi_wp2
    exact HEnd.out
  case done =>
    intro D C W hI hK hD
    obtain ⟨vd, hb5, hod, hvc⟩ := hI.ex
    obtain ⟨Av, cv, rfl, _, _, _⟩ := hod.nd
    have c5 : W.cell? ⟨w.heap.size, 0, none⟩ = some (.slice Av (mrg la lb).length cv) := hb5.cell 0 rfl
    have hg2 := grownBy_putObj' W D (.deferred none)
    have HEnd := hid (show OwnD (W.putObj D (.deferred none)) w.heap.size (.slice Av (mrg la lb).length cv) (mrg la lb).length ((mrg la lb).map (·.1)) ∧ Below w.heap.size w (W.putObj D (.deferred none)) from by
      refine ⟨(hod.kept hg2 (.inr fun e => ?_)).lower (by omega), below_putObj hI.bel (by omega) hI.bel.size _⟩
      obtain ⟨cur, hk⟩ := hod.blk e
      have hk : W.heap[D]? = _ := hk
      rw [hK] at hk
      cases hk)
    have HK2 := hid hK
    clear hI hK hb5 hod hvc hg2 HSQ HG HP HM HST HND1 HND2 h0
    go_wp2_with fail
    refine ⟨by simp, .inl ⟨_, _, rfl, run_takeDeferred HK2.out, ?_⟩⟩
    exact ⟨_, results_tmp rfl _ _ _, .slice Av (mrg la lb).length cv, rfl, HEnd.out⟩
  case stop =>
    intro D C pre x post W _ h _ _
    exact h.elim
end Go.Proofs.Ythjflgnoeenenaa
