/- Contracts: slices.Grow and slices.Concat of descriptions; Descs. -/
import Derived.Test.YtljnpaikjljmbaaMdRdD
import Derived.Lib.AppendZeros
namespace Go.Proofs.Ytljnpaikjljmbaa
open Go.RowKit

theorem flat_inv {ds : List DD} (h32 : ∀ d ∈ ds, d.id.length = 32) {k : Nat} {u : Value} (hk : (ds.flatMap dcs)[k]? = some u) : ∃ (j : Nat) (d : DD) (i : Nat), ds[j]? = some d ∧ (dcs d)[i]? = some u ∧ k = j * 35 + i := by
  induction ds generalizing k with
  | nil => simp at hk
  | cons x l ih =>
    have hx := dcs_length (h32 x (List.mem_cons_self ..))
    rw [List.flatMap_cons] at hk
    by_cases hlt : k < 35
    · rw [List.getElem?_append_left (by omega)] at hk
      exact ⟨0, x, k, rfl, hk, by omega⟩
    · rw [List.getElem?_append_right (by omega), hx] at hk
      obtain ⟨j, d, i, h1, h2, h3⟩ := ih (fun d hd => h32 d (List.mem_cons_of_mem _ hd)) hk
      exact ⟨j + 1, d, i, by simpa using h1, h2, by rw [Nat.succ_mul]; omega⟩
theorem flat_len {ds : List DD} (h32 : ∀ d ∈ ds, d.id.length = 32) : (ds.flatMap dcs).length = ds.length * 35 := by
  induction ds with
  | nil => rfl
  | cons x l ih =>
    rw [List.flatMap_cons, List.length_append, dcs_length (h32 x (List.mem_cons_self ..)), ih (fun d hd => h32 d (List.mem_cons_of_mem _ hd)), List.length_cons, Nat.succ_mul]; omega
theorem flat_one (ds : List DD) : ∀ u ∈ ds.flatMap dcs, u.oneCell' = true := by
  intro u hu
  obtain ⟨d, _, hd⟩ := List.mem_flatMap.1 hu
  exact dcs_one d u hd
theorem run_append_descs {w : World} {base : Nat} (ty : TypeId) {v : Value} {ls : List DD} (hown : OwnD w base v ls) {B m c : Nat} {A : Option Addr} {ds : List DD} (hs : SDs w B A m ds) (hlen : ls.length + m ≤ 1000000) (hbase : base ≤ w.heap.size) :
    ∃ v' w', (Builtin.append_ #[26, 26] ty #[v, .slice A m c]).run Try.prog w = .ok v' w' ∧ OwnD w' base v' (ls ++ ds) ∧ w.grownBy w' v.ownBlock ∧ (v'.ownBlock = v.ownBlock ∨ v'.ownBlock = some w.heap.size) := by
  obtain ⟨i, hi, hz, hsz, hby⟩ := info_parts infoDD
  have hun := Try.underlying26
  by_cases hm : m = 0
  · subst hm
    have hn : ds = [] := List.eq_nil_of_length_eq_zero hs.1
    subst hn
    refine ⟨v, w, ?_, by rw [List.append_nil]; exact hown, ⟨rfl, rfl, rfl, Nat.le_refl _, fun _ _ _ => rfl⟩, .inl rfl⟩
    have hl : ls.length ≤ 1000000 := by omega
    rcases hown.2 with ⟨rfl, h0⟩ | ⟨g, cap, cur, rfl, _, _, hnc, _⟩ <;> cases A <;>
      simp [Builtin.append_, run_underlying hun, sizeOf, typeInfo, Builtin.lenOf, Builtin.firstCells, loadCells, loadCellsFrom, storeCells, *]
  · obtain ⟨b, off, rfl, _, hc⟩ := hs.2.2 (by omega)
    obtain ⟨v', w', hr, h2, h3, _, h5⟩ := run_append_own_at (P := Try.prog) w base 26 ty 25 i _ 35 64 hun hi hz hsz hby rfl (by omega) v _ _ hown ⟨b, off, none⟩ m c (ds.flatMap dcs) (by rw [flat_len hs.2.1, hs.1]) (fun j u hu => by
      obtain ⟨j', d, i', h1, h2, h3⟩ := flat_inv hs.2.1 hu
      rw [Addr.add_lit, h3]
      have := hc j' d h1 i' u h2
      rwa [Nat.add_assoc] at this) (flat_one ds) (by simp [maxLen]; omega) (by omega) hbase
    exact ⟨v', w', hr, by unfold OwnD; rw [List.length_append, hs.1, List.flatMap_append]; exact h2, h3, h5⟩
theorem wpList_append_descs {w : World} {ops : Array Oper} {rest : List Oper} {o : Oper} {a : Act} {Q : Exit → Act → World → Prop} (hgd : o.guard = none) (s x : Operand)
    (ho : o.op = .call { callee := .builtin .append, args := #[s, x], argTypes := #[26, 26] }) {base : Nat} (v : Value) (hv : a.eval s = v) {ls : List DD} (hown : OwnD w base v ls) {B : Nat} (m c : Nat) (A : Option Addr) (hx : a.eval x = .slice A m c) {ds : List DD} (hs : SDs w B A m ds) (hlen : ls.length + m ≤ 1000000) (hbase : base ≤ w.heap.size)
    (h : ∀ v' w', OwnD w' base v' (ls ++ ds) → w.grownBy w' v.ownBlock → wpList Try.prog ops Q rest (a.put o.dst v') w') : wpList Try.prog ops Q (o :: rest) a w := by
  refine wpList_plain hgd fun K hK => ?_
  obtain ⟨v', w', hr, h2, h3, -⟩ := run_append_descs o.type (c := c) hown hs hlen hbase
  unfold Oper.wp execOp
  simp only [ho, resolve, invoke, builtin, Sem.run_bind, Sem.run_pure, Result.andThen_ok, List.map_toArray, List.map_cons, List.map_nil, hv, hx, hr]
  exact hK _ _ (h v' w' h2 h3)
set_option maxRecDepth 20000 in
theorem growD_calls (n : Nat) (h2 : n ≤ 1000000) (w : World) : Calls Try.prog 66 #[.slice none 0 0, .int .i64 (n : Int)] w fun e w' => ∃ v, e = .returned v ∧ OwnD w' w.heap.size v [] ∧ Below w.heap.size w w' := by
  have q1 : ¬ (n : Int) < 0 := by omega
  by_cases h1 : n = 0
  · subst h1
    rw [show ((0 : Nat) : Int) = 0 from rfl]
    go_enter Try.func66, Try.ntmps66
    go_wp2_with fail
    go_ret
    exact ⟨_, rfl, OwnD.nil _ _, Below.refl _ _⟩
  have q2 : (0 : Int) < (n : Int) := by omega
  go_enter Try.func66, Try.ntmps66
  go_wp2_with (at_builtin; refine Held.go ?_)
  obtain ⟨i0, hi0, hz0, hz1, hz2⟩ := info_parts infoDD
  have hr := Lib.run_append_nil_zeros (P := Try.prog) w 26 3 26 25 i0 _ .i64 .i64 Try.underlying26 Try.underlying3 hi0 hz0 n (by omega) (by omega) (by omega) (by rw [hz2]; omega)
  have hge := grownCap_ge w n 0 25
  have hle := grownCap_le_maxLen w n 0 25 (by unfold maxLen; omega)
  generalize hcp : grownCap w n 0 25 = cp at hr hge hle
  have hcs : ∃ cs, Builtin.zeroCells (Value.agg zdc).cells n ++ Builtin.zeroCells (Value.agg zdc).cells (cp - n) = cs ∧ cs.size = cp * 35 := by
    refine ⟨_, rfl, ?_⟩
    rw [Array.size_append, size_zeroCells, size_zeroCells, show (Value.agg zdc).cells.size = 35 from rfl]
    omega
  obtain ⟨cs, hcs, hsz⟩ := hcs
  rw [hcs] at hr
  have HK := hid (show OwnD (w.drew.alloc (.cells cs 25)) w.heap.size (.slice (some ⟨w.heap.size, 0, none⟩) 0 cp) [] from ⟨rfl, .inr ⟨w.heap.size, cp, cs, rfl, Nat.le_refl _, Blk.new w.drew _ _, by simp, hle, hsz, by simp⟩⟩)
  have HB := hid (show Below w.heap.size w (w.drew.alloc (.cells cs 25)) from (Below.refl _ _).drew.alloc (Nat.le_refl _) _)
  clear hcp hcs hsz
  refine Lib.wpList_append_run w rfl (.tmp 20) (.tmp 21) 26 3 rfl _ _ rfl rfl _ _ hr ?_
  clear hr
  generalize w.drew.alloc (.cells cs 25) = w1 at HK HB ⊢
  have hcp : ¬ cp = 0 := by omega
  go_wp2_with fail
  go_ret
  exact ⟨_, rfl, HK.out, HB.out⟩
/-- a row of slices of descriptions -/
structure DRow where
  A : Option Addr
  c : Nat
  ds : List DD
def catD (ls : List DRow) : List DD := ls.flatMap (·.ds)
theorem cat_step {ls : List DRow} {k : Nat} {x : DRow} (h : ls[k]? = some x) : catD (ls.take (k + 1)) = catD (ls.take k) ++ x.ds := by
  unfold catD
  rw [List.take_add_one, h, List.flatMap_append]
  simp
theorem cat_le (ls : List DRow) (k : Nat) : (catD (ls.take k)).length ≤ (catD ls).length := by
  have h : catD ls = catD (ls.take k) ++ catD (ls.drop k) := by
    unfold catD
    rw [← List.flatMap_append, List.take_append_drop]
  rw [h, List.length_append]; omega
set_option maxRecDepth 20000 in
set_option maxHeartbeats 2000000 in
theorem concatD_calls (b off N cc B : Nat) (ls : List DRow) (w : World) (hN : ls.length = N) (hNs : N ≤ 1000) (hsum : (catD ls).length ≤ 1000000)
    (hc : ∀ (j : Nat) x, ls[j]? = some x → w.cell? ⟨b, off + j, none⟩ = some (.slice x.A x.ds.length x.c) ∧ SDs w B x.A x.ds.length x.ds) :
    Calls Try.prog 42 #[.slice (some ⟨b, off, none⟩) N cc] w fun e w' => ∃ v, e = .returned v ∧ OwnD w' w.heap.size v (catD ls) ∧ Below w.heap.size w w' := by
  have HC := hid (fun (W : World) (hb : Below w.heap.size w W) (j : Nat) x (hj : ls[j]? = some x) => (⟨(World.cell?_of_block (hb.block b (lt_of_cell (hc j x hj).1))).trans (hc j x hj).1, (hc j x hj).2.keep hb⟩ : W.cell? ⟨b, off + j, none⟩ = some (.slice x.A x.ds.length x.c) ∧ SDs W B x.A x.ds.length x.ds))
  have HS := hid hsum
  subst hN
  clear hc hsum
  go_enter Try.func42, Try.ntmps42
  go_wp2_with fail
  go_loop [3, 5, 11] (fun v3 _ v11 => ∃ k : Nat, v11 = .int .i64 (k : Int) ∧ v3 = .int .i64 (((catD (ls.take k)).length : Nat) : Int) ∧ k ≤ ls.length) (fun _ _ v11 => ls.length - (intOf v11).toNat)
  case atStart => exact ⟨0, rfl, rfl, by omega⟩
  case round =>
    obtain ⟨k, rfl, rfl, hk⟩ := hrel
    by_cases hlt : k < ls.length
    · have hlt' : (k : Int) < (ls.length : Int) := by omega
      obtain ⟨x, hx⟩ : ∃ x, ls[k]? = some x := ⟨ls[k], List.getElem?_eq_getElem hlt⟩
      have hck := (HC.out w (Below.refl _ _) k x hx).1
      have h1 := cat_step hx
      have h2 := cat_le ls (k + 1)
      have h3 := HS.out
      have HE := hid (show (catD (ls.take (k + 1))).length = (catD (ls.take k)).length + x.ds.length from by rw [h1, List.length_append])
      have h4 : (catD (ls.take k)).length + x.ds.length ≤ 1000000 := by rw [← HE.out]; omega
      clear h1 h2 h3
      generalize (catD (ls.take k)).length = M at HE h4 ⊢
      generalize x.ds.length = m at HE h4 hck
      have hnn : ¬ (M : Int) + (m : Int) < 0 := by omega
      have hwr : IntKind.i64.wrap ((M : Int) + (m : Int)) = (M : Int) + (m : Int) := IntWalk.i64_in _ (by omega)
      go_wp2_with fail
      go_round
      case rel => exact ⟨k + 1, by go_num, by rw [HE.out]; go_num, by omega⟩
      case measure => simp [intOf]; omega
    · obtain rfl : k = ls.length := by omega
      rw [List.take_length]
      have HSS := hid HS.out
      go_wp2_with fail
      refine (growD_calls _ HSS.out w).mono ?_
      rintro _ w1 ⟨v, rfl, ho, hb⟩
      have HO := hid ho; have HB := hid hb
      clear ho hb
      go_wp2_with fail
      go_loopw [6, 8, 27] (fun v6 _ v27 wr => ∃ k : Nat, v27 = .int .i64 (k : Int) ∧ k ≤ ls.length ∧ Hid (OwnD wr w.heap.size v6 (catD (ls.take k))) ∧ Hid (Below w.heap.size w wr)) (fun _ _ v27 _ => ls.length - (intOf v27).toNat)
      case atStart => exact ⟨0, rfl, by omega, HO, HB⟩
      case round =>
        clear HO HB
        obtain ⟨k, rfl, hk, HO, HB⟩ := hrel
        by_cases hlt2 : k < ls.length
        · have hlt2' : (k : Int) < (ls.length : Int) := by omega
          obtain ⟨x, hx⟩ : ∃ x, ls[k]? = some x := ⟨ls[k], List.getElem?_eq_getElem hlt2⟩
          obtain ⟨hck, hsk⟩ := HC.out wr HB.out k x hx
          have HX := hid hsk
          have HN := hid (cat_step hx)
          have h2 := cat_le ls (k + 1)
          rw [HN.out, List.length_append] at h2
          have HLE := hid (show (catD (ls.take k)).length + x.ds.length ≤ 1000000 from by have := HS.out; omega)
          clear hsk h2
          generalize catD (ls.take k) = L at HO HN HLE
          go_wp2_with (at_builtin; refine Held.go ?_)
          refine wpList_append_descs rfl _ _ rfl u6 rfl HO.out x.ds.length x.c x.A rfl HX.out HLE.out HB.out.size ?_
          intro v' w' h1' h2'
          rw [← HN.out] at h1'
          have HO1 := hid h1'
          have HB1 := hid (HB.out.trans (below_of_grown h2' HB.out.size (fun b e => (World.ownsRow.lt HO.out b e).1)))
          clear h1' h2' HO HB HX HN HLE hck
          go_wp2_with fail
          go_roundw
          case rel => exact ⟨k + 1, by go_num, by omega, HO1, HB1⟩
          case measure => simp [intOf]; omega
        · obtain rfl : k = ls.length := by omega
          rw [List.take_length] at HO
          go_wp2_with fail
          go_ret
          exact ⟨_, rfl, HO.out, HB.out⟩
theorem cellKeep {w w' : World} {b o : Nat} {v : Value} (h : w.cell? ⟨b, o, none⟩ = some v) (hb : Below w.heap.size w w') : w'.cell? ⟨b, o, none⟩ = some v := (hb.cell (p := ⟨b, o, none⟩) (lt_of_cell h)).trans h
def descsL (m : MM) : List DD := if m.k = 3 then m.c :: (m.l ++ m.u) else m.l ++ m.u
set_option maxRecDepth 20000 in
set_option maxHeartbeats 2000000 in
theorem descsM_calls (B : Nat) (m : MM) (v1 v2 : Value) (w : World) (hi : MIn w B m v1 v2) (hB : B ≤ w.heap.size) (hl1 : m.l.length ≤ 100000) (hl2 : m.u.length ≤ 100000) :
    Calls Try.prog 13 #[.agg (mcs m v1 v2).toArray] w fun e w' => ∃ v, e = .returned v ∧ OwnD w' w.heap.size v (descsL m) ∧ Below w.heap.size w w' := by
  have hb := below_new w (.cells (mcs m v1 v2).toArray 28)
  have hk := Blk.new w 28 (mcs m v1 v2).toArray
  have hsz := size_new w (.cells (mcs m v1 v2).toArray 28)
  have h32 := hi.1
  obtain ⟨-, A, c, A2, c2, e1, e2, hs1, hs2, -, -⟩ := hi.keep hb
  have d0 := hk.cell 0 (by rw [List.getElem?_toArray]; exact mcs_0 m v1 v2)
  have d37 := hk.cell 37 (by rw [List.getElem?_toArray]; exact mcs_37 h32 v1 v2)
  have d38 := hk.cell 38 (by rw [List.getElem?_toArray]; exact mcs_38 h32 v1 v2)
  have HRUN := hid (show (loadVar 25 ⟨w.heap.size, 2, none⟩).run Try.prog (w.alloc (.cells (mcs m v1 v2).toArray 28)) = .ok (.agg (dcs m.c).toArray) (w.alloc (.cells (mcs m v1 v2).toArray 28)) from by
    have hk2 := hk
    rw [mcs_part] at hk2
    have := part_load hk2 (P := Try.prog) 25 (off := 2) rfl Try.underlying25 rfl (size_desc h32)
    rw [← mcs_part] at this
    exact this)
  have HBS := hid (fun W => run_bs1 (dcs m.c) (dcs_length h32) W)
  have HB := hid hb
  have HSZ := hid hsz
  have HS1 := hid (hs1.more (B' := w.heap.size + 10) (by omega)); have HS2 := hid (hs2.more (B' := w.heap.size + 10) (by omega))
  clear hb hk hi hs1 hs2 hsz
  generalize (mcs m v1 v2).toArray = cm at d0 d37 d38 HRUN HB HS1 HS2 HSZ ⊢
  rw [e1] at d37
  rw [e2] at d38
  clear e1 e2
  generalize hw1 : w.alloc (.cells cm 28) = w1 at d0 d37 d38 HRUN HB HS1 HS2 HSZ
  have HW1 := hid hw1
  by_cases h3 : m.k = 3
  · have HD := hid (show descsL m = catD [⟨some ⟨w1.heap.size, 0, none⟩, 1, [m.c]⟩, ⟨A, c, m.l⟩, ⟨A2, c2, m.u⟩] from by
      have : descsL m = m.c :: (m.l ++ m.u) := if_pos h3
      rw [this]; simp [catD])
    generalize descsL m = DL at HD ⊢
    rw [h3] at d0
    have HK1 := hid (Blk.new w1 25 (dcs m.c).toArray)
    have hb2 := below_new w1 (.cells (dcs m.c).toArray 25)
    have H32 := hid h32
    have HL := hid (show (catD [⟨some ⟨w1.heap.size, 0, none⟩, 1, [m.c]⟩, ⟨A, c, m.l⟩, ⟨A2, c2, m.u⟩] : List DD).length ≤ 1000000 from by simp [catD]; omega)
    have hz2 := size_new w1 (.cells (dcs m.c).toArray 25)
    have HDL := hid (show ∀ (i : Nat) v, (dcs m.c)[i]? = some v → (dcs m.c).toArray[i]? = some v from fun i v h => by rw [List.getElem?_toArray]; exact h)
    generalize hdl : dcs m.c = dl at HRUN HBS HK1 hb2 hz2 HDL
    have HDD := hid hdl
    clear hdl
    generalize hl1 : m.l.length = n1 at d37 HS1
    generalize hl2 : m.u.length = n2 at d38 HS2
    have HN1 := hid hl1; have HN2 := hid hl2
    have HB2 := hid hb2; have HZ2 := hid hz2
    clear hl1 hl2 hb2 hz2 h32
    go_enter Try.func13, Try.ntmps13
    go_wp2_with (first | (refine wpList_load_run rfl 25 _ rfl _ _ rfl HRUN.out ?_; refine wpList_bs1 rfl 26 (.tmp 7) rfl (.agg dl.toArray) (.slice (some ⟨w1.heap.size, 0, none⟩) 1 1) rfl (HBS.out w1) ?_; refine Held.go ?_))
    generalize hw2 : w1.alloc (.cells dl.toArray 25) = w2 at HK1 HB2 HZ2 ⊢
    clear hw2
    have c37 := cellKeep d37 HB2.out
    have c38 := cellKeep d38 HB2.out
    have HSS1 := hid ((HS1.out.keep HB2.out).more (B' := w.heap.size + 20) (by omega))
    have HSS2 := hid ((HS2.out.keep HB2.out).more (B' := w.heap.size + 20) (by omega))
    have HSS0 := hid (show SDs w2 (w.heap.size + 20) (some ⟨w1.heap.size, 0, none⟩) 1 [m.c] from ⟨rfl, fun d hd => by simp at hd; subst hd; exact H32.out, fun _ => ⟨w1.heap.size, 0, rfl, by have := HSZ.out; omega, fun j d hj i v hi => by
      cases j with
      | zero =>
        simp at hj; subst hj
        rw [HDD.out] at hi
        rw [show 0 + 0 * 35 + i = i by omega]
        exact HK1.out.cell i (HDL.out i v hi)
      | succ j => simp at hj⟩⟩)
    clear d37 d38 HRUN HBS HK1 HS1 HS2 hw1 HW1 d0
    unfold Held
    go_wp2_with fail
    have hb3 := below_new w2 (.cells #[.slice (some ⟨w1.heap.size, 0, none⟩) 1 1, .slice A n1 c, .slice A2 n2 c2] 26)
    have hk3 := Blk.new w2 26 #[.slice (some ⟨w1.heap.size, 0, none⟩) 1 1, .slice A n1 c, .slice A2 n2 c2]
    generalize w2.alloc (.cells #[.slice (some ⟨w1.heap.size, 0, none⟩) 1 1, .slice A n1 c, .slice A2 n2 c2] 26) = w3 at hb3 hk3 ⊢
    have HBB := hid ((HB.out.trans (HB2.out.mono HB.out.size)).trans (hb3.mono (HB.out.trans (HB2.out.mono HB.out.size)).size))
    have HCC := hid (concatD_calls w2.heap.size 0 3 3 (w.heap.size + 20) [⟨some ⟨w1.heap.size, 0, none⟩, 1, [m.c]⟩, ⟨A, c, m.l⟩, ⟨A2, c2, m.u⟩] w3 rfl (by omega) HL.out (fun j x hj => by
      have e1 := HN1.out
      have e2 := HN2.out
      match j with
      | 0 => cases hj; exact ⟨hk3.cell 0 rfl, HSS0.out.keep hb3⟩
      | 1 => cases hj; exact ⟨by dsimp only; rw [e1]; exact hk3.cell 1 rfl, by dsimp only; rw [e1]; exact HSS1.out.keep hb3⟩
      | 2 => cases hj; exact ⟨by dsimp only; rw [e2]; exact hk3.cell 2 rfl, by dsimp only; rw [e2]; exact HSS2.out.keep hb3⟩
      | j + 3 => simp at hj))
    rw [← HD.out] at HCC
    clear hb3 hk3 c37 c38 HSS0 HSS1 HSS2
    refine HCC.out.mono ?_
    rintro _ w4 ⟨v, rfl, ho, hb4⟩
    obtain ⟨Av, nv, cv, rfl⟩ : ∃ A n c, v = .slice A n c := by
      rcases ho.2 with ⟨rfl, _⟩ | ⟨_, _, _, rfl, _⟩ <;> exact ⟨_, _, _, rfl⟩
    have HO := hid (ho.lower (base' := w.heap.size) HBB.out.size)
    have HB4 := hid (HBB.out.trans (hb4.mono HBB.out.size))
    clear ho hb4 HCC
    go_wp2_with fail
    go_ret
    exact ⟨_, rfl, HO.out, HB4.out⟩
  · have HD := hid (show descsL m = catD [⟨A, c, m.l⟩, ⟨A2, c2, m.u⟩] from by
      have : descsL m = m.l ++ m.u := if_neg h3
      rw [this]; simp [catD])
    generalize descsL m = DL at HD ⊢
    have HL := hid (show (catD [⟨A, c, m.l⟩, ⟨A2, c2, m.u⟩] : List DD).length ≤ 1000000 from by simp [catD]; omega)
    have HSS1 := hid (HS1.out.more (B' := w.heap.size + 20) (by omega))
    have HSS2 := hid (HS2.out.more (B' := w.heap.size + 20) (by omega))
    generalize hl1 : m.l.length = n1 at d37 HSS1
    generalize hl2 : m.u.length = n2 at d38 HSS2
    have HN1 := hid hl1; have HN2 := hid hl2
    generalize m.k = k at d0 h3
    clear hl1 hl2 HRUN HBS HS1 HS2
    go_enter Try.func13, Try.ntmps13
    go_wp2_with fail
    have hb3 := below_new w1 (.cells #[.slice A n1 c, .slice A2 n2 c2] 26)
    have hk3 := Blk.new w1 26 #[.slice A n1 c, .slice A2 n2 c2]
    generalize w1.alloc (.cells #[.slice A n1 c, .slice A2 n2 c2] 26) = w3 at hb3 hk3 ⊢
    have HBB := hid (HB.out.trans (hb3.mono HB.out.size))
    have HCC := hid (concatD_calls w1.heap.size 0 2 2 (w.heap.size + 20) [⟨A, c, m.l⟩, ⟨A2, c2, m.u⟩] w3 rfl (by omega) HL.out (fun j x hj => by
      have e1 := HN1.out
      have e2 := HN2.out
      match j with
      | 0 => cases hj; exact ⟨by dsimp only; rw [e1]; exact hk3.cell 0 rfl, by dsimp only; rw [e1]; exact HSS1.out.keep hb3⟩
      | 1 => cases hj; exact ⟨by dsimp only; rw [e2]; exact hk3.cell 1 rfl, by dsimp only; rw [e2]; exact HSS2.out.keep hb3⟩
      | j + 2 => simp at hj))
    rw [← HD.out] at HCC
    clear hb3 hk3 d37 d38 HSS1 HSS2
    refine HCC.out.mono ?_
    rintro _ w4 ⟨v, rfl, ho, hb4⟩
    obtain ⟨Av, nv, cv, rfl⟩ : ∃ A n c, v = .slice A n c := by
      rcases ho.2 with ⟨rfl, _⟩ | ⟨_, _, _, rfl, _⟩ <;> exact ⟨_, _, _, rfl⟩
    have HO := hid (ho.lower (base' := w.heap.size) HBB.out.size)
    have HB4 := hid (HBB.out.trans (hb4.mono HBB.out.size))
    clear ho hb4 HCC
    go_wp2_with fail
    go_ret
    exact ⟨_, rfl, HO.out, HB4.out⟩
end Go.Proofs.Ytljnpaikjljmbaa
