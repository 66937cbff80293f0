/- Contracts of package quota: IDs. -/
import Derived.Test.YtjgnbmkhibdcfaaQtOrd2
namespace Go.Proofs.Ytjgnbmkhibdcfaa
open Go.RowKit Go.Shelf

theorem load_at {P : Program} {w : World} (t : TypeId) (g off : Nat) (cs : List Value) (hc : ∀ (j : Nat) v, cs[j]? = some v → w.cell? ⟨g, off + j, none⟩ = some v)
    {d : TypeDesc} (hu : P.underlying t = some d) (hd : (match d with | .struct _ => true | .array _ _ => true | _ => false) = true) (hi : (P.info? t).map (·.size) = some cs.length) : (loadVar t ⟨g, off, none⟩).run P w = .ok (.agg cs.toArray) w := by
  have hl := run_loadCells_list (P := P) w ⟨g, off, none⟩ cs (fun j v hv => by rw [Addr.add_lit]; exact hc j v hv)
  cases hq : P.info? t with
  | none => simp [hq] at hi
  | some i =>
    have hs : i.size = cs.length := by simpa [hq] using hi
    have hagg : (isAgg t).run P w = .ok true w := by
      unfold isAgg
      rw [Sem.run_bind, run_underlying hu w]
      cases d <;> simp_all
    simp [loadVar, Sem.run_bind, hagg, sizeOf, typeInfo, hq, hs, hl]
theorem wpList_load_run {P : Program} {ops : Array Oper} {rest : List Oper} {o : Oper} {a : Act} {w : World} {Q : Exit → Act → World → Prop} (hg : o.guard = none) (t : TypeId) (x : Operand) (ho : o.op = .load t x) (ad : Addr) (v : Value) (hx : a.eval x = .pointer (some ad))
    (hr : (loadVar t ad).run P w = .ok v w) (h : wpList P ops Q rest (a.put o.dst v) w) : wpList P ops Q (o :: rest) a w :=
  wpList_plain hg fun K hK => by
    unfold Oper.wp execOp
    simp only [ho, hx, Instr.loadAt, Instr.sureAddr, Sem.run_bind, Sem.run_pure, Result.andThen_ok, hr]
    exact hK _ _ h
theorem LRow.load {w : World} {base n : Nat} {A : Option Addr} {ks : List SK} (h : LRow w base A n ks) {i : Nat} {x : SK} (hx : ks[i]? = some x) : ∃ g, A = some ⟨g, 0, none⟩ ∧ base ≤ g ∧ (loadVar 71 ⟨g, i * 33, none⟩).run Try.prog w = .ok (kval x.1) w := by
  have hlt := (List.getElem?_eq_some_iff.1 hx).1
  obtain ⟨g, h1, h2, h3⟩ := h.2 (by have := h.1; omega)
  refine ⟨g, h1, h2, ?_⟩
  have := load_at (P := Try.prog) (w := w) 71 g (i * 33) (kcells x.1).toList (fun j v hv => h3 i x hx j v (by simpa using hv)) Try.underlying71 rfl (by
    have := size33 x.2
    simpa using this)
  simpa [kval] using this
theorem LRow.grown {w w' : World} {base n : Nat} {A : Option Addr} {ks : List SK} {row : Option Nat} (h : LRow w base A n ks) (hg : w.grownBy w' row) (hne : ∀ g, A = some ⟨g, 0, none⟩ → row ≠ some g) : LRow w' base A n ks :=
  ⟨h.1, fun hn => by
    obtain ⟨g, h1, h2, h3⟩ := h.2 hn
    refine ⟨g, h1, h2, fun i x hx j v hv => ?_⟩
    have hc := h3 i x hx j v hv
    have hlt := lt_of_cell hc
    unfold World.cell? at hc ⊢
    rw [hg.block g hlt (fun e => hne g h1 e.symm)]
    exact hc⟩
/-- digests one behind the other -/
def flatI (ids : List (List UInt8)) : List Value := ids.flatMap (fun l => l.map bv)
theorem flatI_snoc (ids : List (List UInt8)) (x : List UInt8) : flatI (ids ++ [x]) = flatI ids ++ (bcells x).toList := by simp [flatI, bcells]
theorem infoID : (Try.prog.info? 32).map (fun i => (i.zero, i.size, i.bytes)) = some (some (.agg (bcells (zeroB 32))), 32, 32) := by kernel_rfl
/-- what IDs gives -/
def IdsQ (w : World) (l : List (LKey × Int)) (r : List UInt8) (e : Ending) (w' : World) : Prop :=
  ∃ v k ids, e = .returned v ∧ w'.ownsRow w.heap.size 32 32 v k (flatI ids) ∧ ids.length = k ∧ ids.Pairwise (fun a b => cmpL a b < 0) ∧ (∀ id : List UInt8, id.length = 32 → (id ∈ ids ↔ (szQ l (r, id)).isSome = true)) ∧ (∀ id ∈ ids, id.length = 32) ∧ k ≤ 100000 ∧ Below w.heap.size w w'
theorem idsClosure_calls (p : Nat) (r : List UInt8) (k : LKey) (w : World) (hc : w.cell? ⟨p, 0, none⟩ = some (.string (strB r))) : Calls Try.prog 52 #[kval k, .pointer (some ⟨p, 0, none⟩)] w fun e w' => e = .returned (.bool (decide (k.1 = r))) ∧ Below w.heap.size w w' := by
  have hb := below_new w (.cells (kcells k) 71)
  have c1 := (Blk.new w 71 (kcells k)).cell 0 (v := .string (strB k.1)) rfl
  have c2 := cell_keep hc hb
  have HB := hid hb
  clear hc hb
  unfold kval
  go_enter Try.func52, Try.ntmps52
  go_wp2_with fail
  go_ret
  exact ⟨ret_bool ((strB_eq k.1 r).trans (by rw [Bool.beq_eq_decide_eq])), HB.out⟩
theorem ids_end {w w' : World} {l : List (LKey × Int)} {r : List UInt8} (hr : r.length ≤ maxLen) {ks : List SK} (hp : ks.Pairwise (fun a b => cmpK a.1 b.1 < 0)) (hm : ∀ z : SK, kok z.1 → (z ∈ ks ↔ (szQ l z.1).isSome = true ∧ decide (z.1.1 = r) = true)) (hok : ∀ z ∈ ks, kok z.1) {v : Value} {k n : Nat} (hk : ks.length = k) (hn : k ≤ n) (hn2 : n ≤ 100000)
    (hown : w'.ownsRow w.heap.size 32 32 v k (flatI (ks.map fun z => z.1.2))) (hb : Below w.heap.size w w') : IdsQ w l r (.returned v) w' := by
  have hrep : ∀ z ∈ ks, z.1.1 = r := fun z hz => by
    have := ((hm z (hok z hz)).1 hz).2
    simpa using this
  refine ⟨v, k, _, rfl, hown, by simpa using hk, ?_, fun id hid => ?_, fun id h => ?_, by omega, hb⟩
  · rw [List.pairwise_map]
    refine hp.imp_of_mem fun {a b} ha hb h => ?_
    unfold cmpK at h
    rw [hrep a ha, hrep b hb, cb_refl, if_pos rfl] at h
    exact h
  · rw [List.mem_map]
    constructor
    · rintro ⟨z, hz, rfl⟩
      have h1 := ((hm z (hok z hz)).1 hz).1
      have e : z.1 = (r, z.1.2) := by rw [← hrep z hz]
      rw [← e]
      exact h1
    · intro h
      exact ⟨skOf (r, id) ⟨hr, hid⟩, (hm (skOf (r, id) ⟨hr, hid⟩) ⟨hr, hid⟩).2 ⟨h, decide_eq_true (show r = r from rfl)⟩, rfl⟩
  · obtain ⟨z, _, rfl⟩ := List.mem_map.1 h
    exact z.2
set_option maxRecDepth 20000 in
set_option maxHeartbeats 4000000 in
theorem qids_calls {w : World} {F : List Nat} {s m u n : Nat} {q : QS} {g : List UInt8 → Option Nat} (h : QtB w F s m u n q g) (hn : n ≤ 100000) (r : List UInt8) (hr : r.length ≤ maxLen) :
    Calls Try.prog 30 #[.pointer (some ⟨s, 0, none⟩), .string (strB r)] w (IdsQ w q.l r) := by
  have hz := (zero_of_info infoLK2).1
  have hb1 := below_new w (.cells #[.string (strB r)] 9)
  have hk1 := Blk.new w 9 #[.string (strB r)]
  have hq1 := h.keep hb1
  have HV := hid (qvalid_calls s _ hq1.cells.1)
  have HB1 := hid hb1
  have hmk := mkf
  have HRL := hid hr
  clear h hr hb1
  go_enter Try.func30, Try.ntmps30
  go_wp2_with fail
  generalize w.alloc (.cells #[.string (strB r)] 9) = w1 at hk1 hq1 HV HB1 ⊢
  generalize w.heap.size = p at hk1 ⊢
  have HI := hid (qinorder_calls hq1 hn 52 #[.pointer (some ⟨p, 0, none⟩)] (fun k => decide (k.1 = r)) (enters_of Try.func52 (by kernel_rfl) rfl) (fun k => #[kval k, .pointer (some ⟨p, 0, none⟩)]) (fun _ => rfl)
    (fun k _ W hb => idsClosure_calls p r k W (cell_keep (hk1.cell 0 rfl) hb)))
  clear hk1 hq1
  refine HV.out.mono ?_
  rintro _ _ ⟨rfl, rfl⟩
  clear HV
  go_wp2_with fail
  refine HI.out.mono ?_
  rintro _ w2 ⟨A, c, k, ks, rfl, hrow, hp, hm, hok, hkn, hb2⟩
  have HROW := hid hrow
  have HMATH := hid (⟨hp, hm, hok⟩ : ks.Pairwise (fun a b => cmpK a.1 b.1 < 0) ∧ (∀ z : SK, kok z.1 → (z ∈ ks ↔ (szQ q.l z.1).isSome = true ∧ decide (z.1.1 = r) = true)) ∧ ∀ z ∈ ks, kok z.1)
  have HB2 := hid (HB1.out.trans (hb2.mono HB1.out.size))
  have HW1 := hid HB1.out.size
  have hk100 : k ≤ 100000 := by omega
  clear hrow hp hm hok hb2 HI HB1
  go_wp2_with fail
  go_loopw [5, 15] (fun v5 v15 wr => ∃ i : Nat, v15 = .int .i64 (i : Int) ∧ i ≤ k ∧ Hid (wr.ownsRow w.heap.size 32 32 v5 i (flatI ((ks.take i).map fun z => z.1.2))) ∧ Hid (LRow wr w1.heap.size A k ks) ∧ Hid (∀ g, A = some ⟨g, 0, none⟩ → v5.ownBlock ≠ some g) ∧ Hid (Below w.heap.size w wr)) (fun _ v15 _ => k - (intOf v15).toNat)
  case atStart => exact ⟨0, rfl, Nat.zero_le _, hid ⟨rfl, .inl ⟨rfl, rfl⟩⟩, HROW, hid (fun g _ => by simp [Value.ownBlock]), HB2⟩
  case round =>
    clear HROW HB2
    obtain ⟨i, rfl, hi, HO, HL, HN, HB⟩ := hrel
    by_cases hlt : i < k
    · have hlt' : (i : Int) < (k : Int) := by omega
      obtain ⟨x, hx⟩ : ∃ x, ks[i]? = some x := ⟨ks[i]'(by have := HL.out.1; omega), List.getElem?_eq_getElem _⟩
      obtain ⟨g0, rfl, hg0, hload⟩ := HL.out.load hx
      have HX := hid hx
      have HLD := hid hload
      clear hx hload
      obtain ⟨q1, q2⟩ := new_set wr 71 (kcells ([], zeroB 32)) (kcells x.1)
      have K3 := hid (Blk.new wr 71 (kcells ([], zeroB 32)))
      have K4 := hid q2
      have HO6 := hid (row_keep HO.out q1)
      have HL6 := hid (HL.out.keep q1)
      have HB6 := hid (HB.out.trans (q1.mono HB.out.size))
      have HSZ := hid (size33 (k := x.1) x.2)
      have HZ3 := hid (show (kcells ([], zeroB 32)).size = (kcells x.1).size from by rw [kcells_size (k := x.1) x.2]; rfl)
      have HS32 := hid (show (Try.prog.info? 32).map (·.size) = some (x.1.2.map bv).length from by rw [List.length_map, x.2]; kernel_rfl)
      clear q1 q2 HO HB HL
      go_wp2_with (first
        | ((refine wpList_load_run rfl 71 _ rfl ⟨g0, i * 33, none⟩ _ rfl HLD.out ?_))
        | ((refine wpList_store_blk rfl 71 _ _ rfl wr.heap.size (kcells x.1) rfl rfl 71 _ K3.out HSZ.out HZ3.out (kcells_all _) ?_); refine Held.go ?_))
      clear K3 HLD
      generalize (wr.alloc (.cells (kcells ([], zeroB 32)) 71)).setRow wr.heap.size (kcells x.1) = w6 at K4 HO6 HL6 HB6 ⊢
      generalize wr.heap.size = q0 at K4 ⊢
      unfold Held
      have HP := hid (show Blk w6 q0 71 (part [.string (strB x.1.1)] (x.1.2.map bv) []) from by have := K4.out; simpa [kcells, part] using this)
      have hsl := slice_one (P := Try.prog) Try.underlying55 infoID (.agg (bcells x.1.2)) (by show (bcells x.1.2).size = 32; rw [bcells_size, x.2]) (by omega) (by omega) w6
      go_wp2_with (first
        | (refine wpList_load_part rfl 32 _ rfl q0 1 rfl HP.out rfl Try.underlying32 rfl HS32.out ?_)
        | ((refine wpList_slice1 (u := .agg (bcells x.1.2)) rfl 55 1 0 (.tmp 21) rfl rfl hsl ?_); refine Held.go ?_))
      clear hsl HP K4
      change Held (wpList _ _ _ _ _ (w6.alloc (.cells (bcells x.1.2) 32)))
      have hb8 := below_new w6 (.cells (bcells x.1.2) 32)
      have hq8 := Blk.new w6 32 (bcells x.1.2)
      generalize w6.alloc (.cells (bcells x.1.2) 32) = w8 at hb8 hq8 ⊢
      generalize w6.heap.size = q8 at hq8 ⊢
      have HO8 := row_keep HO6.out hb8
      have HL8 := HL6.out.keep hb8
      have HB8 := HB6.out.trans (hb8.mono HB6.out.size)
      obtain ⟨v9, w9, hrun9, hown9, hg9, hob9⟩ := app_one (P := Try.prog) (ty := 55) Try.underlying55 infoID (by show (bcells (zeroB 32)).size = 32; rw [bcells_size]; rfl) (by omega) (by omega) HO8 hq8 (by rw [bcells_size, x.2]) (fun u hu => List.all_eq_true.1 (bcells_oneCell x.1.2) u hu) (by omega) HB8.size
      have e1 : ((ks.take (i + 1)).map fun z : SK => z.1.2) = ((ks.take i).map fun z : SK => z.1.2) ++ [x.1.2] := by
        rw [List.take_add_one, HX.out]
        simp
      have HO9 := hid (show w9.ownsRow w.heap.size 32 32 v9 (i + 1) (flatI ((ks.take (i + 1)).map fun z => z.1.2)) from by rw [e1, flatI_snoc]; exact hown9)
      have HL9 := hid (HL8.grown hg9 (fun g e => HN.out g e))
      have hgl : g0 < w8.heap.size := by
        have h1 := HL8.load HX.out
        obtain ⟨g1, e2, _, _⟩ := h1
        obtain ⟨g2, e3, _, h3⟩ := HL8.2 (by omega)
        cases e3
        exact lt_of_cell (h3 i x HX.out 0 _ rfl)
      have HN9 := hid (show ∀ g, some (⟨g0, 0, none⟩ : Addr) = some ⟨g, 0, none⟩ → v9.ownBlock ≠ some g from fun g e => by
        have eg : g0 = g := by simpa using e
        rcases hob9 with h | h
        · rw [h]; exact HN.out g e
        · rw [h, ← eg]
          simp
          omega)
      have HB9 := hid (HB8.trans (below_of_grown hg9 HB8.size (fun g e => (own_lt HO8 e).1)))
      clear hb8 hq8 HO8 HL8 HB8 hown9 hg9 hob9 e1 hgl HO6 HL6 HB6
      unfold Held
      go_wp2_with (refine wpList_append1 rfl _ _ 55 rfl rfl rfl hrun9 ?_)
      clear hrun9
      go_roundw
      case rel => exact ⟨i + 1, by go_num, by omega, HO9, HL9, HN9, HB9⟩
      case measure => simp [intOf]; omega
    · obtain rfl : i = k := by omega
      have HEnd := hid (show IdsQ w q.l r (.returned u5) _ from ids_end HRL.out HMATH.out.1 HMATH.out.2.1 HMATH.out.2.2 HL.out.1 hkn hn (by have := HO.out; rw [List.take_of_length_le (by have := HL.out.1; omega)] at this; exact this) HB.out)
      clear HO HL HN HB
      go_wp2_with fail
      go_ret
      exact HEnd.out
end Go.Proofs.Ytjgnbmkhibdcfaa
