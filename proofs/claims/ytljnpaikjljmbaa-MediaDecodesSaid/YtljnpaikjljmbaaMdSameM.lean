/- Contract: the kit's SameManifest. -/
import Derived.Test.YtljnpaikjljmbaaMdSame
namespace Go.Proofs.Ytljnpaikjljmbaa
open Go.RowKit

def eqM (a b : MM) : Bool := decide (a.k = b.k ∧ a.t = b.t ∧ a.c = b.c ∧ a.l = b.l ∧ a.u = b.u)
theorem eqM_iff {a b : MM} : eqM a b = true ↔ a = b := by
  obtain ⟨a1, a2, a3, a4, a5⟩ := a
  obtain ⟨b1, b2, b3, b4, b5⟩ := b
  simp [eqM]
section
variable {P : Program} {ops : Array Oper} {rest : List Oper} {o : Oper} {a : Act} {w : World} {Q : Exit → Act → World → Prop}
theorem wpList_load_run_g (hgd : Region.wanted o (yielded ops a.tmps) = true) (t : TypeId) (x : Operand) (ho : o.op = .load t x) (ad : Addr) (v : Value) (hx : a.eval x = .pointer (some ad))
    (hr : (loadVar t ad).run P w = .ok v w) (h : wpList P ops Q rest (a.put o.dst v) w) : wpList P ops Q (o :: rest) a w := by
  refine wpList_val_g hgd v ?_ h
  unfold execOp
  simp only [ho, hx, Instr.loadAt, Instr.sureAddr, Sem.run_bind, Sem.run_pure, Result.andThen_ok, hr]
theorem wpList_eql_agg_g (hgd : Region.wanted o (yielded ops a.tmps) = true) (t : TypeId) (x y : Operand) (rt : TypeId) (ho : o.op = .binOp .eql t x y rt) (cs1 cs2 : Array Value) (hx : a.eval x = .agg cs1) (hy : a.eval y = .agg cs2) (hm : P.eqGuardType P.depth t = false) {b : Bool} (hq : (Op.equalIn 10000 t (.agg cs1) (.agg cs2)).run P w = .ok b w) (h : wpList P ops Q rest (a.put o.dst (.bool b)) w) : wpList P ops Q (o :: rest) a w :=
  wpList_val_g hgd _ (run_eql_op (P := P) (w := w) (ρ := a.eval) t x y rt ho cs1 cs2 hx hy hm hq) h
end
theorem run_load_conf {w : World} {b : Nat} {m : MM} {v1 v2 : Value} (h32 : m.c.id.length = 32) (hk : Blk w b 28 (mcs m v1 v2).toArray) : (loadVar 25 ⟨b, 2, none⟩).run Try.prog w = .ok (.agg (dcs m.c).toArray) w := by
  rw [mcs_part] at hk
  exact part_load hk (P := Try.prog) 25 (off := 2) rfl Try.underlying25 rfl (size_desc h32)
set_option maxRecDepth 20000 in
set_option maxHeartbeats 4000000 in
theorem sameMan_calls (B B' : Nat) (m m' : MM) (v1 v2 v1' v2' : Value) (w : World) (hi : MIn w B m v1 v2) (hi' : MIn w B' m' v1' v2') (hl : m.l.length ≤ 1000000 ∧ m.u.length ≤ 1000000 ∧ m'.l.length ≤ 1000000 ∧ m'.u.length ≤ 1000000) :
    Calls Try.prog 18 #[.agg (mcs m v1 v2).toArray, .agg (mcs m' v1' v2').toArray] w fun e w' => e = .returned (.bool (eqM m m')) ∧ Below w.heap.size w w' := by
  obtain ⟨k0, k1, hb⟩ := two_new w (mcs m v1 v2).toArray (mcs m' v1' v2').toArray 28 28
  have h32 := hi.1
  have h32' := hi'.1
  obtain ⟨-, A1, c1, A2, c2, e1, e2, s1, s2, -, -⟩ := hi.keep hb
  obtain ⟨-, A3, c3, A4, c4, e3, e4, s3, s4, -, -⟩ := hi'.keep hb
  generalize hw2 : (w.alloc (.cells (mcs m v1 v2).toArray 28)).alloc (.cells (mcs m' v1' v2').toArray 28) = w2 at k0 k1 hb s1 s2 s3 s4
  have HK0 := hid k0; have HK1 := hid k1
  have HC := hid (fun W (hW : Below w2.heap.size w2 W) => (⟨(k0.keep hW).cell 37 (by rw [List.getElem?_toArray]; exact mcs_37 h32 v1 v2), (k0.keep hW).cell 38 (by rw [List.getElem?_toArray]; exact mcs_38 h32 v1 v2), (k1.keep hW).cell 37 (by rw [List.getElem?_toArray]; exact mcs_37 h32' v1' v2'), (k1.keep hW).cell 38 (by rw [List.getElem?_toArray]; exact mcs_38 h32' v1' v2')⟩ : W.cell? ⟨w.heap.size, 37, none⟩ = some v1 ∧ W.cell? ⟨w.heap.size, 38, none⟩ = some v2 ∧ W.cell? ⟨w.heap.size + 1, 37, none⟩ = some v1' ∧ W.cell? ⟨w.heap.size + 1, 38, none⟩ = some v2'))
  have a0 := k0.cell 0 (by rw [List.getElem?_toArray]; exact mcs_0 m v1 v2)
  have a1 := k0.cell 1 (by rw [List.getElem?_toArray]; exact mcs_1 m v1 v2)
  have b0 := k1.cell 0 (by rw [List.getElem?_toArray]; exact mcs_0 m' v1' v2')
  have b1 := k1.cell 1 (by rw [List.getElem?_toArray]; exact mcs_1 m' v1' v2')
  have HR1 := hid (run_load_conf h32 k0)
  have HR2 := hid (run_load_conf h32' k1)
  have HE := hid (run_eq_desc m.c m'.c h32 h32' w2)
  have HL1 := hid (fun W (hW : Below w2.heap.size w2 W) => sameDescs_calls m.l.length c1 m'.l.length c3 B B' A1 A3 m.l m'.l W (s1.keep hW) (s3.keep hW) (by omega) (by omega))
  have HL2 := hid (fun W (hW : Below w2.heap.size w2 W) => sameDescs_calls m.u.length c2 m'.u.length c4 B B' A2 A4 m.u m'.u W (s2.keep hW) (s4.keep hW) (by omega) (by omega))
  have HB := hid hb
  have HQ := hid (show ∀ b, (b = true ↔ m.k = m'.k ∧ m.t = m'.t ∧ m.c = m'.c ∧ m.l = m'.l ∧ m.u = m'.u) → eqM m m' = b from fun b h => by
    rw [Bool.eq_iff_iff, h]; simp [eqM])
  generalize eqM m m' = R at HQ ⊢
  rw [e1, e2, e3, e4] at HC
  have HST := hid (strB_eq m.t m'.t)
  have HEQ := hid (show eqD m.c m'.c = true ↔ m.c = m'.c from eqD_iff)
  generalize eqD m.c m'.c = eb at HE HEQ
  generalize (dcs m.c).toArray = cc at HR1 HE
  generalize (dcs m'.c).toArray = cc' at HR2 HE
  clear k0 k1 hb hi hi' h32 h32' s1 s2 s3 s4 HK0 HK1
  generalize hm1 : (mcs m v1 v2).toArray = cm at hw2 ⊢
  generalize hm2 : (mcs m' v1' v2').toArray = cm' at hw2 ⊢
  clear hm1 hm2 e1 e2 e3 e4
  by_cases hk : m.k = m'.k
  · have hk' : (m.k == m'.k) = true := by simp [hk]
    by_cases ht : m.t = m'.t
    · have ht' : ((strB m.t).toList == (strB m'.t).toList) = true := by rw [HST.out]; simp [ht]
      have HKT := hid (And.intro hk ht)
      generalize m.k = k1 at a0 hk'
      generalize m'.k = k2 at b0 hk'
      generalize strB m.t = t1 at a1 ht'
      generalize strB m'.t = t2 at b1 ht'
      clear hk ht HST
      cases eb with
      | false =>
        obtain rfl := HQ.out false (by
          have := HEQ.out
          constructor
          · intro h; cases h
          · rintro ⟨-, -, h, -⟩; exact absurd (this.2 h) (by simp))
        go_enter Try.func18, Try.ntmps18
        go_wp2_with (first | (refine wpList_load_run_g (by rfl) 25 _ rfl _ _ rfl HR1.out ?_) | (refine wpList_load_run_g (by rfl) 25 _ rfl _ _ rfl HR2.out ?_) | (refine wpList_eql_agg_g (by rfl) 25 _ _ _ rfl _ _ rfl rfl (by kernel_rfl) HE.out ?_))
        go_ret
        exact ⟨rfl, HB.out⟩
      | true =>
        have HCE := hid (HEQ.out.1 rfl)
        obtain ⟨p37, p38, q37, q38⟩ := HC.out w2 (Below.refl _ _)
        have HS1 := hid (HL1.out w2 (Below.refl _ _))
        have HD1 := hid (show decide (m.l = m'.l) = true ↔ m.l = m'.l from by simp)
        have HD2 := hid (show decide (m.u = m'.u) = true ↔ m.u = m'.u from by simp)
        clear HL1
        generalize m.l.length = n1 at HC HS1 p37
        generalize m'.l.length = n3 at HC HS1 q37
        generalize m.u.length = n2 at HC HL2 p38
        generalize m'.u.length = n4 at HC HL2 q38
        generalize decide (m.l = m'.l) = d1 at HS1 HD1
        generalize decide (m.u = m'.u) = d2 at HL2 HD2
        go_enter Try.func18, Try.ntmps18
        go_wp2_with (first | (refine wpList_load_run_g (by rfl) 25 _ rfl _ _ rfl HR1.out ?_) | (refine wpList_load_run_g (by rfl) 25 _ rfl _ _ rfl HR2.out ?_) | (refine wpList_eql_agg_g (by rfl) 25 _ _ _ rfl _ _ rfl rfl (by kernel_rfl) HE.out ?_))
        refine HS1.out.mono ?_
        rintro _ w3 ⟨rfl, hb3⟩
        have HB3 := hid hb3
        have HBW := hid (HB.out.trans (hb3.mono HB.out.size))
        clear hb3 HS1 p37 p38 q37 q38 a0 a1 b0 b1 HR1 HR2 HE
        cases d1 with
        | false =>
          obtain rfl := HQ.out false (by
            have := HD1.out
            constructor
            · intro h; cases h
            · rintro ⟨-, -, -, h, -⟩; exact absurd (this.2 h) (by simp))
          go_wp2_with fail
          go_ret
          exact ⟨rfl, HBW.out⟩
        | true =>
          obtain ⟨p37, p38, q37, q38⟩ := HC.out w3 HB3.out
          have HLE := hid (HD1.out.1 rfl)
          go_wp2_with fail
          refine (HL2.out w3 HB3.out).mono ?_
          rintro _ w4 ⟨rfl, hb4⟩
          have HBW4 := hid (HBW.out.trans (hb4.mono HBW.out.size))
          obtain rfl := HQ.out d2 (by
            have h1 := HD2.out
            obtain ⟨h2, h3⟩ := HKT.out
            constructor
            · intro h; exact ⟨h2, h3, HCE.out, HLE.out, h1.1 h⟩
            · rintro ⟨-, -, -, -, h⟩; exact h1.2 h)
          clear hb4 HL2 p37 p38 q37 q38
          go_wp2_with fail
          go_ret
          exact ⟨rfl, HBW4.out⟩
    · have ht' : ((strB m.t).toList == (strB m'.t).toList) = false := by rw [HST.out]; simp [ht]
      obtain rfl := HQ.out false (by
        constructor
        · intro h; cases h
        · rintro ⟨-, h, -⟩; exact absurd h ht)
      generalize m.k = k1 at a0 hk'
      generalize m'.k = k2 at b0 hk'
      generalize strB m.t = t1 at a1 ht'
      generalize strB m'.t = t2 at b1 ht'
      clear hk ht HST HR1 HR2 HE HL1 HL2
      go_enter Try.func18, Try.ntmps18
      go_wp2_with fail
      go_ret
      exact ⟨rfl, HB.out⟩
  · have hk' : (m.k == m'.k) = false := by simp [hk]
    obtain rfl := HQ.out false (by
      constructor
      · intro h; cases h
      · rintro ⟨h, -⟩; exact absurd h hk)
    generalize m.k = k1 at a0 hk'
    generalize m'.k = k2 at b0 hk'
    clear hk HST HR1 HR2 HE HL1 HL2
    go_enter Try.func18, Try.ntmps18
    go_wp2_with fail
    go_ret
    exact ⟨rfl, HB.out⟩
end Go.Proofs.Ytljnpaikjljmbaa
