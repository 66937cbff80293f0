/- The law LogActs, walked. Written by tools/mklg.py out of XLgScW.tpl. -/
import Derived.Test.YtiejndkchcljdaaLgScB
import Derived.Deep.DeepCutAuto
import Derived.Deep.CutBlock
namespace Go.Proofs.Ytiejndkchcljdaa
open Go.RowKit

/-- what an act makes of a device -/
def actL (s : DS) (x : LAct) : DS :=
  if x.k = 0 then (blankR s x.a).1 else if x.k = 1 then (logWR s x.a x.n x.bs).1 else if x.k = 2 then flushD s else if x.k = 3 then crashD s x.keep x.n else if x.k = 4 then fuseS s x.n else if x.k = 5 then writeS s x.n (padS x.bs) else s
theorem act_bndL {k n : Nat} {s : DS} (h : BndL k n s) (h1 : 1 ≤ n) (x : LAct) (hx : x.n ≤ 9223372036854775807) : BndL (k + n) n (actL s x) := by
  have h0 := h.up (show k ≤ k + n by omega)
  unfold actL
  split
  · exact blank_bndL h _
  split
  · exact logW_bndL h _ _ _
  split
  · exact flush_bndL h0
  split
  · exact crash_bndL h0 _ _
  split
  · exact fuse_bndL h0 _ hx
  split
  · exact (write_bndL h _ _).up (by omega)
  · exact h0
section
variable {w W : World} {base bx g gx m : Nat} {H : List Nat} {s1 s2 : DS}
theorem DX.scanO (h : DX w base bx g gx m H s1 s2 W) (a : AR) : Calls Try.prog 30 #[.pointer (some ⟨g, 0, none⟩), arv a] W fun e w' => ∃ v vs, e = .returned (.tuple #[v, .int .i64 ((scanR s1 a).2 : Int), .int .i64 (scanE s1 a : Int)]) ∧ Recs w' W.heap.size v (scanR s1 a).1 vs ∧ Below W.heap.size W w' := by
  obtain ⟨⟨F, Fx, h1, -⟩, -⟩ := h
  exact scan_calls base g F s1 W a h1
theorem DX.scanR (h : DX w base bx g gx m H s1 s2 W) (a : AR) (hn : 1 ≤ s2.n) (h40 : s2.n ≤ 40) (hl : s2.loose.length ≤ 1000000) : Calls Try.prog 31 #[.pointer (some ⟨gx, 0, none⟩), arv a] W fun e w' => ∃ v vs, e = .returned (.tuple #[v, .int .i64 ((_root_.Go.Proofs.Ytiejndkchcljdaa.scanR s2 a).2 : Int), .int .i64 (scanE s2 a : Int)]) ∧ Recs w' W.heap.size v (_root_.Go.Proofs.Ytiejndkchcljdaa.scanR s2 a).1 vs ∧ Below W.heap.size W w' := by
  obtain ⟨⟨F, Fx, -, h1, -⟩, -⟩ := h
  exact rScan_calls bx gx m Fx s2 W a h1 hn h40 hl
theorem DX.checks (h : DX w base bx g gx m H s1 s2 W) (a : AR) (hn : 1 ≤ s2.n) : (Calls Try.prog 33 #[.pointer (some ⟨g, 0, none⟩), arv a] W fun e w' => e = .returned (.int .i64 (checkE s1.n a : Int)) ∧ Below W.heap.size W w') ∧ (Calls Try.prog 34 #[.pointer (some ⟨gx, 0, none⟩), arv a] W fun e w' => e = .returned (.int .i64 (checkE s2.n a : Int)) ∧ Below W.heap.size W w') := by
  obtain ⟨⟨F, Fx, h1, h2, -⟩, -⟩ := h
  exact ⟨check_calls base g F s1 W a h1, rCheck_calls bx gx m Fx s2 W a h2 hn⟩
theorem DX.looses (h : DX w base bx g gx m H s1 s2 W) : (Calls Try.prog 35 #[.pointer (some ⟨g, 0, none⟩)] W fun e w' => e = .returned (.int .i64 (s1.loose.length : Int)) ∧ W = w') ∧ (Calls Try.prog 36 #[.pointer (some ⟨gx, 0, none⟩)] W fun e w' => e = .returned (.int .i64 (s2.loose.length : Int)) ∧ W = w') := by
  obtain ⟨⟨F, Fx, h1, h2, -⟩, -⟩ := h
  exact ⟨dLoose_calls base g F s1 W h1, rLoose_calls bx gx m Fx s2 W h2⟩
end
theorem scan_small {s : DS} (h40 : s.n ≤ 40) (a : AR) : (scanR s a).1.length ≤ 1000000 ∧ ∀ x ∈ (scanR s a).1, x.length ≤ 1099511627776 := by
  have key : ∀ (gen : Nat) (sec : Nat → List UInt8) (fuel i : Nat) (rec : List UInt8) (recs : List (List UInt8)) (e K : Nat), recs.length + fuel ≤ K → (∀ x ∈ recs, x.length ≤ 1048576) → (scanL gen sec fuel i rec recs e).1.length ≤ K ∧ ∀ x ∈ (scanL gen sec fuel i rec recs e).1, x.length ≤ 1048576 := by
    intro gen sec fuel
    induction fuel with
    | zero => intro i rec recs e K h1 h2; exact ⟨by unfold scanL; omega, by unfold scanL; exact h2⟩
    | succ fuel ih =>
      intro i rec recs e K h1 h2
      rw [scan_succ]
      split
      · split
        · split
          · exact ⟨by show recs.length ≤ K; omega, h2⟩
          · rename_i hl
            exact ih _ _ _ _ K (by rw [List.length_append, List.length_singleton]; omega) (fun x hx => by
              rcases List.mem_append.1 hx with hx | hx
              · exact h2 x hx
              · rw [List.mem_singleton.1 hx]; omega)
        · exact ih _ _ _ _ K (by omega) h2
      · exact ⟨by show recs.length ≤ K; omega, h2⟩
  unfold scanR
  split
  · rename_i hc
    obtain ⟨h1, h2, h3, -⟩ := check_ok hc.1
    obtain ⟨k1, k2⟩ := key a.g.toNat (secsOf s a.a.toNat) (a.b - a.a).toNat 0 [] [] 0 1000000 (by simp only [List.length_nil]; omega) (fun x hx => by cases hx)
    exact ⟨k1, fun x hx => Nat.le_trans (k2 x hx) (by omega)⟩
  · exact ⟨by simp, fun x hx => by cases hx⟩
theorem run_load_lact {w : World} {a : LAct} {ad : Addr} (hl : ∀ j v, (LV a).toList[j]? = some v → w.cell? (ad.add j) = some v) : (loadVar 37 ad).run Try.prog w = .ok (.agg (LV a)) w := by
  have HSZ : (Try.prog.info? 37).map (·.size) = some (LV a).toList.length := by kernel_rfl
  have HUN : ∃ d, Try.prog.underlying 37 = some d ∧ aggD d = true := by
    have h : (Try.prog.underlying 37).map aggD = some true := by kernel_rfl
    obtain ⟨d, h1, h2⟩ := Option.map_eq_some_iff.1 h
    exact ⟨d, h1, h2⟩
  obtain ⟨d, u1, u2⟩ := HUN
  have := run_load_cells (P := Try.prog) 37 ad (LV a).toList hl u1 u2 HSZ
  simpa using this
def zact : Array Value := #[.int .i64 0, .int .i64 0, .int .i64 0, .int .i64 0, .int .i64 0, .slice none 0 0, .slice none 0 0]
theorem zero_act : (Try.prog.info? 37).map (·.zero) = some (some (.agg zact)) := by kernel_rfl
theorem size_act (x : LAct) : (Try.prog.info? 37).map (·.size) = some (LV x).size := by kernel_rfl
theorem does_load_runL {P : Program} {o : Oper} {a : Act} {w : World} {T : Value → World → Prop} (t : TypeId) (x : Operand) (ho : o.op = .load t x) (ad : Addr) (v : Value) (hx : a.eval x = .pointer (some ad))
    (hr : (loadVar t ad).run P w = .ok v w) (h : T v w) : OpDoes P o a w T := fun K Q hK => by
  unfold Oper.wp execOp
  simp only [ho, hx, Instr.loadAt, Instr.sureAddr, Sem.run_bind, Sem.run_pure, Result.andThen_ok, hr]
  exact hK _ _ h
theorem run_load_area {w : World} {T : Nat} {t : TypeId} {cs : Array Value} {a : AR} (hb : Blk w T t cs) (h1 : cs[1]? = some (.int .i64 a.a)) (h2 : cs[2]? = some (.int .i64 a.b)) (h3 : cs[3]? = some (.int .i64 a.g)) :
    (loadVar 33 ⟨T, 1, none⟩).run Try.prog w = .ok (arv a) w := by
  have HSZ : (Try.prog.info? 33).map (·.size) = some [Value.int .i64 a.a, Value.int .i64 a.b, Value.int .i64 a.g].length := by kernel_rfl
  have HUN : ∃ d, Try.prog.underlying 33 = some d ∧ aggD d = true := by
    have h : (Try.prog.underlying 33).map aggD = some true := by kernel_rfl
    obtain ⟨d, h1, h2⟩ := Option.map_eq_some_iff.1 h
    exact ⟨d, h1, h2⟩
  obtain ⟨d, u1, u2⟩ := HUN
  have c1 : w.cell? ((⟨T, 1, none⟩ : Addr).add 0) = some (.int .i64 a.a) := by rw [Addr.add_lit]; exact hb.cell 1 h1
  have c2 : w.cell? ((⟨T, 1, none⟩ : Addr).add 1) = some (.int .i64 a.b) := by rw [Addr.add_lit]; exact hb.cell 2 h2
  have c3 : w.cell? ((⟨T, 1, none⟩ : Addr).add 2) = some (.int .i64 a.g) := by rw [Addr.add_lit]; exact hb.cell 3 h3
  have := run_load_cells (P := Try.prog) 33 ⟨T, 1, none⟩ [Value.int .i64 a.a, Value.int .i64 a.b, Value.int .i64 a.g] (fun j v hj => by
    rcases j with _ | _ | _ | j
    · simp at hj; subst hj; exact c1
    · simp at hj; subst hj; exact c2
    · simp at hj; subst hj; exact c3
    · simp at hj) u1 u2 HSZ
  simpa [arv] using this
theorem same_recs {w : World} {B B' c1 c2 : Nat} {A1 A2 : Option Addr} {l : List (List UInt8)} {us1 us2 : List Value} (h1 : Recs w B (.slice A1 l.length c1) l us1) (h2 : Recs w B' (.slice A2 l.length c2) l us2) (hm : l.length ≤ 1099511627776) :
    Calls Try.prog 32 #[.slice A1 l.length c1, .slice A2 l.length c2] w fun e w' => e = .returned (.bool true) ∧ Below w.heap.size w w' := by
  obtain ⟨A, c, e, hs, -⟩ := h1.sl
  obtain ⟨A', c', e', hs', -⟩ := h2.sl
  obtain ⟨rfl, rfl⟩ : A1 = A ∧ c1 = c := by injection e with e1 e2 e3; exact ⟨e1, e3⟩
  obtain ⟨rfl, rfl⟩ : A2 = A' ∧ c2 = c' := by injection e' with e1 e2 e3; exact ⟨e1, e3⟩
  have := sameLists_calls A1 A2 l l c1 c2 w hs hs' hm
  simpa using this
def la30Val (g gx T ln c1 c2 mm ee ce ll : Nat) (ar : AR) (A1 A2 : Option Addr) : Nat → Unit → Value
  | 0, _ => .bool true
  | 1, _ => .bool false
  | 2, _ => .bool false
  | 3, _ => .slice A1 ln c1
  | 4, _ => .slice A2 ln c2
  | 5, _ => .bool true
  | 6, _ => .bool false
  | 7, _ => .bool false
  | 8, _ => .bool false
  | 9, _ => .int .i64 (mm : Int)
  | 10, _ => .int .i64 (mm : Int)
  | 11, _ => .bool false
  | 12, _ => .bool false
  | 13, _ => .bool false
  | 14, _ => .int .i64 (ee : Int)
  | 15, _ => .int .i64 (ee : Int)
  | 16, _ => .bool false
  | 17, _ => .bool false
  | 18, _ => .bool false
  | 19, _ => .pointer (some ⟨g, 0, none⟩)
  | 20, _ => .pointer (some ⟨T, 1, none⟩)
  | 21, _ => arv ar
  | 22, _ => .int .i64 (ce : Int)
  | 23, _ => .pointer (some ⟨gx, 0, none⟩)
  | 24, _ => .pointer (some ⟨T, 1, none⟩)
  | 25, _ => arv ar
  | 26, _ => .int .i64 (ce : Int)
  | 27, _ => .bool false
  | 28, _ => .bool false
  | 29, _ => .bool false
  | 30, _ => .pointer (some ⟨g, 0, none⟩)
  | 31, _ => .int .i64 (ll : Int)
  | 32, _ => .pointer (some ⟨gx, 0, none⟩)
  | 33, _ => .int .i64 (ll : Int)
  | 34, _ => .bool false
  | 35, _ => .bool false
  | _, _ => undef
def la14Val (g gx T ez : Nat) (ar : AR) : Nat → Unit → Value
  | 0, _ => .pointer (some ⟨g, 0, none⟩)
  | 1, _ => .pointer (some ⟨T, 1, none⟩)
  | 2, _ => arv ar
  | 3, _ => .int .i64 (ez : Int)
  | 4, _ => .pointer (some ⟨gx, 0, none⟩)
  | 5, _ => .pointer (some ⟨T, 1, none⟩)
  | 6, _ => arv ar
  | 7, _ => .int .i64 (ez : Int)
  | 8, _ => .bool true
  | 9, _ => .bool true
  | _, _ => undef
def la22Val (g gx T ez : Nat) (nn : Int) (AA : Option Addr) (kl cc : Nat) : Nat → Unit → Value
  | 0, _ => .pointer (some ⟨g, 0, none⟩)
  | 1, _ => .pointer (some ⟨T, 6, none⟩)
  | 2, _ => .slice AA kl cc
  | 3, _ => .pointer (some ⟨T, 4, none⟩)
  | 4, _ => .int .i64 nn
  | 5, _ => .int .i64 (ez : Int)
  | 6, _ => .pointer (some ⟨gx, 0, none⟩)
  | 7, _ => .pointer (some ⟨T, 6, none⟩)
  | 8, _ => .slice AA kl cc
  | 9, _ => .pointer (some ⟨T, 4, none⟩)
  | 10, _ => .int .i64 nn
  | 11, _ => .int .i64 (ez : Int)
  | 12, _ => .bool true
  | 13, _ => .bool true
  | _, _ => undef
def la24Val (g gx T ez : Nat) (nn : Int) : Nat → Unit → Value
  | 0, _ => .pointer (some ⟨g, 0, none⟩)
  | 1, _ => .pointer (some ⟨T, 4, none⟩)
  | 2, _ => .int .i64 nn
  | 3, _ => .int .i64 (ez : Int)
  | 4, _ => .pointer (some ⟨gx, 0, none⟩)
  | 5, _ => .pointer (some ⟨T, 4, none⟩)
  | 6, _ => .int .i64 nn
  | 7, _ => .int .i64 (ez : Int)
  | 8, _ => .bool true
  | 9, _ => .bool true
  | _, _ => undef
def la26Val (g gx T ez : Nat) (nn : Int) (AA : Option Addr) (kl cc : Nat) : Nat → Value → Value
  | 0, _ => .pointer (some ⟨g, 0, none⟩)
  | 1, _ => .pointer (some ⟨T, 4, none⟩)
  | 2, _ => .int .i64 nn
  | 3, _ => .pointer (some ⟨T, 5, none⟩)
  | 4, _ => .slice AA kl cc
  | 5, k => k
  | 6, _ => .int .i64 (ez : Int)
  | 7, _ => .pointer (some ⟨gx, 0, none⟩)
  | 8, _ => .pointer (some ⟨T, 4, none⟩)
  | 9, _ => .int .i64 nn
  | 10, _ => .pointer (some ⟨T, 5, none⟩)
  | 11, _ => .slice AA kl cc
  | 12, k => k
  | 13, _ => .int .i64 (ez : Int)
  | 14, _ => .bool true
  | 15, _ => .bool true
  | _, _ => undef
set_option maxRecDepth 20000 in
theorem acts_off (z : Int) (n c : Nat) (A : Option Addr) (w : World) (hz : 40 < z) :
    Calls Try.prog 3 #[.int .i64 z, .slice A n c] w fun e w' => e = .returned (.bool true) ∧ Below w.heap.size w w' := by
  go_enter Try.func3, Try.ntmps3
  go_wp2_with fail
  refine (awake_calls w).mono ?_
  rintro _ w1 ⟨rfl, hb⟩
  have HB := hid hb
  clear hb
  go_wp2_with fail
  go_ret
  exact ⟨rfl, HB.out⟩
set_option maxRecDepth 20000 in
theorem acts_bad (z : Int) (n c : Nat) (A : Option Addr) (w : World) (hz : z < 1) :
    Calls Try.prog 3 #[.int .i64 z, .slice A n c] w fun e w' => e = .returned (.bool true) ∧ Below w.heap.size w w' := by
  have HN := hid (new_bad z w (.inl hz))
  have HR := hid (rNew_bad z w (.inl hz))
  have he := fun W => eql_none_ptr (P := Try.prog) W 24 65 none (by kernel_rfl)
  have h40 : ¬ 40 < z := by omega
  clear hz
  go_enter Try.func3, Try.ntmps3
  go_wp2_with fail
  refine HN.out.mono ?_
  rintro _ _ ⟨rfl, rfl⟩
  go_wp2_with fail
  refine HR.out.mono ?_
  rintro _ _ ⟨rfl, rfl⟩
  go_wp2_with fail
  go_loop [9] (fun i => i = .int .i64 0) (fun _ => 0)
  case atStart => rfl
  case round =>
    obtain rfl := hrel
    go_wp2_with fail
    refine (awake_calls w).mono ?_
    rintro _ w1 ⟨rfl, hb⟩
    have HB := hid hb
    clear hb
    go_wp2_with fail
    go_ret
    exact ⟨rfl, HB.out⟩
set_option maxHeartbeats 16000000 in
set_option maxRecDepth 20000 in
theorem acts_good (z n c : Nat) (A : Option Addr) (ts : List LAct) (w : World) (h : LATS w A n ts) (hn : n ≤ 9223372036854775807) (h1 : 1 ≤ z) (h2 : z ≤ 40) :
    Calls Try.prog 3 #[.int .i64 (z : Int), .slice A n c] w fun e w' => e = .returned (.bool true) ∧ Below w.heap.size w w' := by
  have HT := hid h
  have HLL := hid (fun W (hW : Below w.heap.size w W) => longL_calls n c A ts W (h.keep hW) hn)
  have HLN := hid (fun hlo => longL_no (ts := ts) hlo)
  have HTL := hid h.len
  have HN := hid (new_calls z w h1 (by omega))
  have HR := hid (fun W => rNew_calls z W h1 (by omega))
  have q1 : ¬ 40 < (z : Int) := by omega
  have hsz : (Try.prog.info? 65).map (·.size) = some 6 := by kernel_rfl
  have hsx : (Try.prog.info? 86).map (·.size) = some 5 := by kernel_rfl
  clear h
  generalize hlo : longL ts = lo at HLL HLN
  have HLOE := hid hlo
  clear hlo
  go_enter Try.func3, Try.ntmps3
  go_wp2_with fail
  refine HN.out.mono ?_
  rintro _ w1 ⟨g, F, rfl, hd, hb1⟩
  have HD := hid hd; have HB1 := hid hb1
  clear hd hb1
  go_wp2_with fail
  refine (HR.out w1).mono ?_
  rintro _ w2 ⟨gx, Fx, rfl, hr, hb2⟩
  have HX := hid (show DX w w.heap.size w1.heap.size g gx 0 [] (startS z) (startS z) w2 from
    ⟨⟨F, Fx, HD.out.keep hb2, hr, fun b hb hb' => by have := (hr.lt b hb).1; have := (HD.out.lt b hb').2; omega, fun b hb => by cases hb⟩, HB1.out.trans (hb2.mono HB1.out.size), Nat.le_refl _, HB1.out.size, Nat.le_trans HB1.out.size hb2.size, hb2.size⟩)
  have HBN := hid (show BndL 0 z (startS z) from ⟨by simp [startS], fun j hj => by simp [startS] at hj, rfl⟩)
  clear hr hb2 HD HB1 HN HR
  generalize w1.heap.size = bx at HX
  go_wp2_with fail
  go_loopw [9] (fun i wr => ∃ (k : Nat) (s : DS), (k ≤ n ∨ k = 0) ∧ (0 < k → lo = false) ∧ i = .int .i64 (k : Int) ∧ Hid (BndL (41 * k) z s) ∧ Hid (DX w w.heap.size bx g gx (42 * k) [] s s wr)) (fun i _ => n - (intOf i).toNat)
  case atStart => exact ⟨0, _, .inr rfl, fun h => absurd h (by omega), rfl, HBN, HX⟩
  case round =>
    clear HX HBN
    obtain ⟨k, s, hk, hk0, rfl, HBN, HX⟩ := hrel
    have HLW := hid (HLL.out wr HX.out.bel)
    cases hlo : lo with
    | true =>
      rw [hlo] at HLW
      have hk9 : k = 0 := by
        rcases Nat.eq_zero_or_pos k with h | h
        · exact h
        · have := hk0 h; rw [hlo] at this; cases this
      clear hlo
      go_wp2_with fail
      refine HLW.out.mono ?_
      rintro _ _ ⟨rfl, rfl⟩
      go_wp2_with fail
      refine (awake_calls wr).mono ?_
      rintro _ w9 ⟨rfl, hb⟩
      have HB := hid (HX.out.bel.trans (hb.mono HX.out.bel.size))
      clear hb
      go_wp2_with fail
      go_ret
      exact ⟨rfl, HB.out⟩
    | false =>
      rw [hlo] at HLW
      obtain ⟨hn25, hbk⟩ := HLN.out hlo
      rw [HTL.out] at hn25
      have HBK := hid hbk
      clear hlo hbk
      by_cases hlt : k < n
      · have HTw := hid (HT.out.keep HX.out.bel)
        obtain ⟨b, off, rfl, hc⟩ := HTw.out.at_ (by omega)
        have hkl : k < ts.length := by have := HT.out.len; omega
        obtain ⟨x, hx⟩ : ∃ x, ts[k]? = some x := ⟨ts[k], List.getElem?_eq_getElem hkl⟩
        have hok := HT.out.ok x (List.mem_of_getElem? hx)
        obtain ⟨hb400, hk40⟩ := HBK.out x (List.mem_of_getElem? hx)
        have HRUN := hid (run_load_lact (w := wr) (a := x) (ad := ⟨b, off + k * 7, none⟩) (fun j v hj => by rw [Addr.add_lit]; exact hc k x hx j v (by simpa using hj)))
        have hix := fun W => ix_lact b off n c k hlt W
        have q0 : (k : Int) < (n : Int) := by omega
        have HOK := hid hok
        have HAB := hid (act_bndL HBN.out h1 x hok.nn.2)
        clear hc hok hx HTw
        have KZ := hid (Blk.new wr 37 zact)
        have HNS := hid (new_set wr 37 zact (LV x))
        have HSA := hid (size_act x)
        have HZ0 := hid (show zact.size = (LV x).size from rfl)
        have HOA := hid (show (LV x).toList.all (·.oneCell') = true from rfl)
        have HC0 := hid (show (LV x)[0]? = some (Value.int .i64 x.k) from rfl)
        have HC1 := hid (show (LV x)[1]? = some (Value.int .i64 x.a.a) from rfl)
        have HC2 := hid (show (LV x)[2]? = some (Value.int .i64 x.a.b) from rfl)
        have HC3 := hid (show (LV x)[3]? = some (Value.int .i64 x.a.g) from rfl)
        have HC4 := hid (show (LV x)[4]? = some (Value.int .i64 x.n) from rfl)
        have HC5 := hid (show (LV x)[5]? = some (Value.slice x.A1 x.bs.length x.c1) from rfl)
        have HC6 := hid (show (LV x)[6]? = some (Value.slice x.A2 x.keep.length x.c2) from rfl)
        generalize LV x = cs at HRUN HNS HSA HZ0 HOA HC0 HC1 HC2 HC3 HC4 HC5 HC6
        go_wp2_with fail
        refine HLW.out.mono ?_
        rintro _ _ ⟨rfl, rfl⟩
        clear HLW
        go_wp2_with (first | (refine wpList_load_run rfl 37 _ rfl _ _ rfl HRUN.out ?_) | (refine wpList_alloc_blk rfl 37 rfl _ zero_act ?_) | ((refine wpList_store_blk rfl 37 _ _ rfl wr.heap.size _ rfl rfl 37 _ KZ.out HSA.out HZ0.out HOA.out ?_); refine Held.go ?_))
        obtain ⟨hb6, hk6⟩ := HNS.out
        have HX1 := hid (HX.out.more (H' := [wr.heap.size]) hb6 (fun b hb => .inr (by rw [List.mem_singleton.1 hb]; exact ⟨Nat.le_refl _, hk6.lt⟩)))
        have HTW := hid HX.out.bel.size
        have HT6 := hid hk6
        clear hb6 hk6 HNS KZ HSA HZ0 HOA HRUN hix HX
        generalize (wr.alloc (.cells zact 37)).setRow wr.heap.size cs = w6 at HX1 HT6 ⊢
        generalize wr.heap.size = T at HX1 HT6 HTW ⊢
        have c0 := HT6.out.cell 0 HC0.out
        have c5 := HT6.out.cell 5 HC5.out
        have HLE := hid (lentOwn_calls _ x.bs.length x.c1 x.A1 x.bs w6 (HOK.out.keep HX1.out.bel).sb (by omega))
        unfold Held
        go_wp2_with fail
        refine HLE.out.mono ?_
        rintro _ w7 ⟨A7, cK, rfl, hcK, hs7, ho7, hb7⟩
        obtain ⟨K, oK, rfl, -, -⟩ := hs7.2 (by omega)
        have hKb := ho7.block K rfl
        have HX2 := hid (HX1.out.more (H' := [T, K]) hb7 (fun b hb => by
          simp at hb
          rcases hb with rfl | rfl
          · exact .inl (by simp)
          · exact .inr hKb))
        have HKz := hid (show w.heap.size ≤ K from Nat.le_trans HX1.out.bel.size hKb.1)
        have HTK := hid (show T < K from Nat.lt_of_lt_of_le HT6.out.lt hKb.1)
        obtain ⟨PP, hPP⟩ : ∃ PP : World → Prop, ∀ W, PP W ↔ (Blk W T 37 cs ∧ Own W w.heap.size 5 (.slice (some ⟨K, oK, none⟩) x.bs.length cK) x.bs.length x.bs ∧ SB W W.heap.size (some ⟨K, oK, none⟩) (x.bs.length + 4) (x.bs ++ [201, 202, 203, 204])) := ⟨_, fun _ => Iff.rfl⟩
        have HPQ := hid hPP
        have HP7 := hid ((hPP w7).2 ⟨HT6.out.keep hb7, ho7.lower HX1.out.bel.size, hs7⟩)
        have HPH := hid (show ∀ X Y, HeldW [T, K] X Y → PP X → PP Y from fun X Y hh hp => (hPP _).2 ⟨hh.blk ((hPP _).1 hp).1 (by simp), hh.own ((hPP _).1 hp).2.1 (fun b e => by cases e; simp), by
          obtain ⟨L, hc, hl⟩ := hh
          exact (((hPP _).1 hp).2.2.chg hc (fun b off e _ => by cases e; exact hl K (by simp))).more hc.size⟩)
        clear hPP hs7 ho7 hb7 hKb HX1 c0 c5 HT6 HLE
        have c0 := ((HPQ.out _).1 HP7.out).1.cell 0 HC0.out
        have hcK2 := hid hcK
        clear hcK
        have HSN := hid HAB.out.2.2
        obtain ⟨M, hM⟩ : ∃ M, M = 42 * (k + 1) := ⟨_, rfl⟩
        have HM := hid hM
        clear hM
        have hAC : actL s x = if x.k = 0 then (blankR s x.a).1 else if x.k = 1 then (logWR s x.a x.n x.bs).1 else if x.k = 2 then flushD s else if x.k = 3 then crashD s x.keep x.n else if x.k = 4 then fuseS s x.n else if x.k = 5 then writeS s x.n (padS x.bs) else s := rfl
        have HA := hid hAC
        clear hAC
        generalize actL s x = SZ at HA HAB HSN
        have HLOS := hid HBN.out.1
        have HFZ := hid HBN.out.2.1
        have HSn := hid HBN.out.2.2
        have hk25 : k < 25 := by omega
        go_upto_block 2 with fail
        go_cut [11, 13, 14, 15, 16] (fun s11 _s13 _s14 _s15 _s16 W => s11 = .bool true ∧ DX w w.heap.size bx g gx M [T, K] SZ SZ W ∧ PP W)
        case first =>
          by_cases k0 : x.k = 0
          · have q1 : (x.k == 0) = true := by simp [k0]
            have HSZ := hid (show SZ = (blankR s x.a).1 from by rw [HA.out, if_pos k0])
            have HK1 := hid (fun W S2 m' (h : DX w w.heap.size bx g gx m' [T, K] s S2 W) => h.own (v := .int .i64 ((blankR s x.a).2 : Int)) (s' := SZ) (fun F hd hF => by rw [HSZ.out]; exact (lgBlank_calls w.heap.size g F s W x.a hd h.bb ⟨HFZ.out, by have := HLOS.out; omega⟩ (by have := HLOS.out; omega)).mono (fun e W' hp => by obtain ⟨rfl, hp⟩ := hp; exact hp.post)))
            have HK2 := hid (fun W S1 (h : DX w w.heap.size bx g gx (42 * k) [T, K] S1 s W) => h.ref (v := .int .i64 ((blankR s x.a).2 : Int)) (s' := SZ) (m' := M) (fun F hd hF => by rw [HSZ.out]; exact (rBlank_calls bx gx (42 * k) F s W x.a hd (by have := HSn.out; omega) h.bxb 42 (by have := HSn.out; omega) (by omega) (by have := HLOS.out; omega)).mono (fun e W' hp => hp.up (by have := HM.out; omega))))
            generalize (blankR s x.a).2 = ez at HK1 HK2
            clear HSZ HA k0
            have HST := hid (TwS.start (n := 10) (i1 := 3) (i2 := 7) (m2 := M) (SN := SZ) (gh := fun _ => ()) HPH.out HX2.out HP7.out (by decide) (by decide))
            go_wp2_with fail
            refine wp_region_invG 225 () (la14Val g gx T ez x.a) (TwS w w.heap.size bx g gx (42 * k) M [T, K] PP s SZ 3 7) (by kernel_rfl) (by kernel_rfl) (by exact Nat.le_refl 225) ?_ ?_ ?_
            · exact HST.out
            · intro i o f gh a W hi hf hdep hsame hcl hval hS
              rcases i with _ | _ | _ | _ | _ | _ | _ | _ | _ | _ | i
              all_goals simp only [List.getElem?_cons_succ, List.getElem?_cons_zero, List.getElem?_nil, Option.some.injEq, reduceCtorEq] at hi
              all_goals subst hi
              · have E5 : a.tmps[5]? = some (.pointer (some ⟨g, 0, none⟩)) := (same_of hsame 5 (by rfl)).trans rfl
                refine g_plain rfl ?_
                exact does_value (w' := W) (v := .pointer (some ⟨g, 0, none⟩)) (by go_simp) ⟨(), .inr rfl, hS.step 0 (by decide) (by decide)⟩
              · have E10 : a.tmps[10]? = some (.pointer (some ⟨T, 0, none⟩)) := (same_of hsame 10 (by rfl)).trans rfl
                refine g_plain rfl ?_
                exact does_value (w' := W) (v := .pointer (some ⟨T, 1, none⟩)) (by go_simp) ⟨(), .inr rfl, hS.step 1 (by decide) (by decide)⟩
              · have E73 := hval 1 _ 73 rfl rfl (dep_of hdep 1 (by rfl))
                unfold la14Val at E73
                refine g_plain rfl ?_
                exact does_load_runL 33 _ rfl ⟨T, 1, none⟩ (arv x.a) (by rw [eval_getD, E73]; rfl) (run_load_area ((HPQ.out W).1 hS.pp).1 HC1.out HC2.out HC3.out) ⟨(), .inr rfl, hS.step 2 (by decide) (by decide)⟩
              · have E72 := hval 0 _ 72 rfl rfl (dep_of hdep 0 (by rfl))
                have E74 := hval 2 _ 74 rfl rfl (dep_of hdep 2 (by rfl))
                unfold la14Val at E72 E74
                refine g_plain rfl ?_
                refine does_call 15 #[.pointer (some ⟨g, 0, none⟩), arv x.a] (by go_simp) ((HK1.out W _ _ (hS.pre1 hf)).mono ?_)
                rintro _ W' ⟨rfl, hp, hh⟩
                exact ⟨_, rfl, (), .inr rfl, hS.s1 hp hh (by decide)⟩
              · have E7 : a.tmps[7]? = some (.pointer (some ⟨gx, 0, none⟩)) := (same_of hsame 7 (by rfl)).trans rfl
                refine g_plain rfl ?_
                exact does_value (w' := W) (v := .pointer (some ⟨gx, 0, none⟩)) (by go_simp) ⟨(), .inr rfl, hS.step 4 (by decide) (by decide)⟩
              · have E10 : a.tmps[10]? = some (.pointer (some ⟨T, 0, none⟩)) := (same_of hsame 10 (by rfl)).trans rfl
                refine g_plain rfl ?_
                exact does_value (w' := W) (v := .pointer (some ⟨T, 1, none⟩)) (by go_simp) ⟨(), .inr rfl, hS.step 5 (by decide) (by decide)⟩
              · have E77 := hval 5 _ 77 rfl rfl (dep_of hdep 5 (by rfl))
                unfold la14Val at E77
                refine g_plain rfl ?_
                exact does_load_runL 33 _ rfl ⟨T, 1, none⟩ (arv x.a) (by rw [eval_getD, E77]; rfl) (run_load_area ((HPQ.out W).1 hS.pp).1 HC1.out HC2.out HC3.out) ⟨(), .inr rfl, hS.step 6 (by decide) (by decide)⟩
              · have E76 := hval 4 _ 76 rfl rfl (dep_of hdep 4 (by rfl))
                have E78 := hval 6 _ 78 rfl rfl (dep_of hdep 6 (by rfl))
                unfold la14Val at E76 E78
                refine g_plain rfl ?_
                refine does_call 16 #[.pointer (some ⟨gx, 0, none⟩), arv x.a] (by go_simp) ((HK2.out W _ (hS.pre2 hf)).mono ?_)
                rintro _ W' ⟨rfl, hp, hh⟩
                exact ⟨_, rfl, (), .inr rfl, hS.s2 hp hh (by decide)⟩
              · have E75 := hval 3 _ 75 rfl rfl (dep_of hdep 3 (by rfl))
                have E79 := hval 7 _ 79 rfl rfl (dep_of hdep 7 (by rfl))
                unfold la14Val at E75 E79
                refine g_plain rfl ?_
                exact does_value (w' := W) (v := .bool true) (by go_simp) ⟨(), .inr rfl, hS.step 8 (by decide) (by decide)⟩
              · have E80 := hval 8 _ 80 rfl rfl (dep_of hdep 8 (by rfl))
                unfold la14Val at E80
                refine g_plain rfl ?_
                exact does_value (w' := W) (v := .bool true) (by go_simp) ⟨(), .inr rfl, hS.step 9 (by decide) (by decide)⟩
            · intro gh w8 hS
              have HX8 := hid (hS.fin rfl rfl)
              have HP8 := hid hS.pp
              clear hS HST HK1 HK2 HPQ HPH HP7 HX2
              simp only [putAll, la14Val, Nat.reduceAdd, Nat.zero_add, Act.put, List.setIfInBounds_toArray, List.set_cons_zero, List.set_cons_succ]
              go_wp2_with fail
              go_meet
              exact ⟨rfl, HX8.out, HP8.out⟩
          have q1 : (x.k == 0) = false := by simp [k0]
          by_cases k1 : x.k = 1
          · have q2 : (x.k == 1) = true := by simp [k1]
            have HSZ := hid (show SZ = (logWR s x.a x.n x.bs).1 from by rw [HA.out, if_neg k0, if_pos k1])
            have HK1 := hid (HX2.out.own (v := .tuple #[.int .i64 (logWR s x.a x.n x.bs).2.1, .int .i64 ((logWR s x.a x.n x.bs).2.2 : Int)]) (s' := SZ) (fn := 17) (args := #[.pointer (some ⟨g, 0, none⟩), arv x.a, .int .i64 x.n, .slice (some ⟨K, oK, none⟩) x.bs.length cK]) (fun F hd hF => by rw [HSZ.out]; exact (lgWrite_calls w.heap.size g F s w7 x.a x.n (some ⟨K, oK, none⟩) x.bs.length cK _ x.bs hd HX2.out.bb ⟨HFZ.out, by have := HLOS.out; omega⟩ (by have := HLOS.out; omega) (((HPQ.out _).1 HP7.out).2.2.take x.bs.length (by omega) |> fun h => by simpa using h) (by have := hcK2.out; omega) (fun _ b off e => by cases e; exact hF K (by simp))).mono (fun e W' hp => by obtain ⟨rfl, hp⟩ := hp; exact hp.post)))
            have HK2 := hid (fun W (h : DX w w.heap.size bx g gx (42 * k) [T, K] SZ s W) => h.ref (v := .tuple #[.int .i64 (logWR s x.a x.n x.bs).2.1, .int .i64 ((logWR s x.a x.n x.bs).2.2 : Int)]) (s' := SZ) (m' := M) (fn := 18) (args := #[.pointer (some ⟨gx, 0, none⟩), arv x.a, .int .i64 x.n, .slice x.A1 x.bs.length x.c1]) (fun F hd hF => by rw [HSZ.out]; exact (rLogWrite_calls bx gx (42 * k) F s W x.a x.n x.A1 x.bs.length x.c1 _ x.bs hd (by have := HSn.out; omega) h.bxb 42 (by have := HSn.out; omega) (by omega) (by have := HLOS.out; omega) (HOK.out.keep h.bel).sb HOK.out.bc HOK.out.nn).mono (fun e W' hp => hp.up (by have := HM.out; omega))))
            generalize (logWR s x.a x.n x.bs).2.1 = e1 at HK1 HK2
            generalize (logWR s x.a x.n x.bs).2.2 = e2 at HK1 HK2
            have HT7 := hid ((HPQ.out _).1 HP7.out).1
            have HRA := hid (run_load_area HT7.out HC1.out HC2.out HC3.out)
            have c4 := HT7.out.cell 4 HC4.out
            clear HSZ HA k0 k1
            go_wp2_with (refine wpList_load_run rfl 33 _ rfl _ _ rfl HRA.out ?_)
            refine HK1.out.mono ?_
            rintro _ w8 ⟨rfl, h8, hh8⟩
            have HP8a := hid (HPH.out _ _ hh8 HP7.out)
            have HK3 := hid (HK2.out _ h8)
            have HT8 := hid ((HPQ.out _).1 HP8a.out).1
            have HRA8 := hid (run_load_area HT8.out HC1.out HC2.out HC3.out)
            clear c4
            have c4 := HT8.out.cell 4 HC4.out
            have c5 := HT8.out.cell 5 HC5.out
            clear h8 hh8 HK1 HK2 HX2 HP7 HT7 HRA
            go_wp2_with (refine wpList_load_run rfl 33 _ rfl _ _ rfl HRA8.out ?_)
            refine HK3.out.mono ?_
            rintro _ w9 ⟨rfl, h9, hh9⟩
            have HX9a := hid h9
            have HP9 := hid (HPH.out _ _ hh9 HP8a.out)
            clear c4 c5
            have c5 := ((HPQ.out _).1 HP9.out).1.cell 5 HC5.out
            clear h9 hh9 HK3 HP8a HT8 HRA8
            go_wp2_with fail
            refine (keptBytes_calls _ x.bs.length cK _ x.c1 _ x.A1 x.bs _ ((HPQ.out _).1 HP9.out).2.2 (HOK.out.keep HX9a.out.bel).sb (by omega) hcK2.out).mono ?_
            rintro _ w10 ⟨rfl, hb10⟩
            have HX8 := hid (HX9a.out.keep hb10)
            have HP8 := hid (HPH.out _ _ (held_below hb10) HP9.out)
            clear hb10 HX9a HP9 HPQ HPH c5
            go_wp2_with fail
            go_meet
            exact ⟨rfl, HX8.out, HP8.out⟩
          have q2 : (x.k == 1) = false := by simp [k1]
          by_cases k2 : x.k = 2
          · have q3 : (x.k == 2) = true := by simp [k2]
            have HSZ := hid (show SZ = flushD s from by rw [HA.out, if_neg k0, if_neg k1, if_pos k2])
            have HK1 := hid (HX2.out.own (v := .int .i64 (flushE s : Int)) (s' := SZ) (fun F hd hF => by rw [HSZ.out]; exact dFlush_calls w.heap.size g F s _ hd HFZ.out (by have := HLOS.out; omega)))
            have HK2 := hid (fun W (h : DX w w.heap.size bx g gx (42 * k) [T, K] SZ s W) => h.ref (v := .int .i64 (flushE s : Int)) (s' := SZ) (m' := M) (fun F hd hF => by rw [HSZ.out]; exact (rFlush_calls bx gx (42 * k) F s W (by omega) hd (by have := HLOS.out; omega)).mono (fun e W' hp => hp.up (by have := HM.out; omega))))
            generalize flushE s = ez at HK1 HK2
            clear HSZ HA k0 k1 k2
            go_wp2_with fail
            refine HK1.out.mono ?_
            rintro _ w8 ⟨rfl, h8, hh8⟩
            have HP8a := hid (HPH.out _ _ hh8 HP7.out)
            have HK3 := hid (HK2.out _ h8)
            clear h8 hh8 HK1 HK2 HX2 HP7
            go_wp2_with fail
            refine HK3.out.mono ?_
            rintro _ w9 ⟨rfl, h9, hh9⟩
            have HX8 := hid h9
            have HP8 := hid (HPH.out _ _ hh9 HP8a.out)
            clear h9 hh9 HK3 HP8a HPQ HPH
            go_wp2_with fail
            go_meet
            exact ⟨rfl, HX8.out, HP8.out⟩
          have q3 : (x.k == 2) = false := by simp [k2]
          by_cases k3 : x.k = 3
          · have q4 : (x.k == 3) = true := by simp [k3]
            have HSZ := hid (show SZ = crashD s x.keep x.n from by rw [HA.out, if_neg k0, if_neg k1, if_neg k2, if_pos k3])
            have HK1 := hid (fun W S2 m' (h : DX w w.heap.size bx g gx m' [T, K] s S2 W) => h.own (v := .int .i64 (crashE x.n : Int)) (s' := SZ) (fun F hd hF => by rw [HSZ.out]; exact dCrash_calls w.heap.size g F s W x.keep.length x.c2 x.A2 x.keep x.n hd (by have := HLOS.out; omega) (HOK.out.keep h.bel).kb (fun hp b off e hb => by have := HOK.out.kb.lt hp b off e; have := (hd.lt b hb).1; omega) (by omega)))
            have HK2 := hid (fun W S1 (h : DX w w.heap.size bx g gx (42 * k) [T, K] S1 s W) => h.ref (v := .int .i64 (crashE x.n : Int)) (s' := SZ) (m' := M) (fun F hd hF => by rw [HSZ.out]; exact (rCrash_calls bx gx (42 * k) F s W x.keep.length x.c2 x.A2 x.keep x.n hd (by have := HLOS.out; omega) (HOK.out.keep h.bel).kb (fun hp b off e hb => by have := HOK.out.kb.lt hp b off e; have := (hd.lt b hb).1; have := h.hx; omega) (by omega)).mono (fun e W' hp => hp.up (by have := HM.out; omega))))
            generalize crashE x.n = ez at HK1 HK2
            clear HSZ HA k0 k1 k2 k3
            have HST := hid (TwS.start (n := 14) (i1 := 5) (i2 := 11) (m2 := M) (SN := SZ) (gh := fun _ => ()) HPH.out HX2.out HP7.out (by decide) (by decide))
            go_wp2_with fail
            refine wp_region_invG 225 () (la22Val g gx T ez x.n x.A2 x.keep.length x.c2) (TwS w w.heap.size bx g gx (42 * k) M [T, K] PP s SZ 5 11) (by kernel_rfl) (by kernel_rfl) (by exact Nat.le_refl 225) ?_ ?_ ?_
            · exact HST.out
            · intro i o f gh a W hi hf hdep hsame hcl hval hS
              rcases i with _ | _ | _ | _ | _ | _ | _ | _ | _ | _ | _ | _ | _ | _ | i
              all_goals simp only [List.getElem?_cons_succ, List.getElem?_cons_zero, List.getElem?_nil, Option.some.injEq, reduceCtorEq] at hi
              all_goals subst hi
              · have E5 : a.tmps[5]? = some (.pointer (some ⟨g, 0, none⟩)) := (same_of hsame 5 (by rfl)).trans rfl
                refine g_plain rfl ?_
                exact does_value (w' := W) (v := .pointer (some ⟨g, 0, none⟩)) (by go_simp) ⟨(), .inr rfl, hS.step 0 (by decide) (by decide)⟩
              · have E10 : a.tmps[10]? = some (.pointer (some ⟨T, 0, none⟩)) := (same_of hsame 10 (by rfl)).trans rfl
                refine g_plain rfl ?_
                exact does_value (w' := W) (v := .pointer (some ⟨T, 6, none⟩)) (by go_simp) ⟨(), .inr rfl, hS.step 1 (by decide) (by decide)⟩
              · have E128 := hval 1 _ 128 rfl rfl (dep_of hdep 1 (by rfl))
                unfold la22Val at E128
                have c1 := ((HPQ.out W).1 hS.pp).1.cell 6 HC6.out
                refine g_plain rfl ?_
                exact does_value (w' := W) (v := .slice x.A2 x.keep.length x.c2) (by go_simp) ⟨(), .inr rfl, hS.step 2 (by decide) (by decide)⟩
              · have E10 : a.tmps[10]? = some (.pointer (some ⟨T, 0, none⟩)) := (same_of hsame 10 (by rfl)).trans rfl
                refine g_plain rfl ?_
                exact does_value (w' := W) (v := .pointer (some ⟨T, 4, none⟩)) (by go_simp) ⟨(), .inr rfl, hS.step 3 (by decide) (by decide)⟩
              · have E130 := hval 3 _ 130 rfl rfl (dep_of hdep 3 (by rfl))
                unfold la22Val at E130
                have c1 := ((HPQ.out W).1 hS.pp).1.cell 4 HC4.out
                refine g_plain rfl ?_
                exact does_value (w' := W) (v := .int .i64 x.n) (by go_simp) ⟨(), .inr rfl, hS.step 4 (by decide) (by decide)⟩
              · have E127 := hval 0 _ 127 rfl rfl (dep_of hdep 0 (by rfl))
                have E129 := hval 2 _ 129 rfl rfl (dep_of hdep 2 (by rfl))
                have E131 := hval 4 _ 131 rfl rfl (dep_of hdep 4 (by rfl))
                unfold la22Val at E127 E129 E131
                refine g_plain rfl ?_
                refine does_call 22 #[.pointer (some ⟨g, 0, none⟩), .slice x.A2 x.keep.length x.c2, .int .i64 x.n] (by go_simp) ((HK1.out W _ _ (hS.pre1 hf)).mono ?_)
                rintro _ W' ⟨rfl, hp, hh⟩
                exact ⟨_, rfl, (), .inr rfl, hS.s1 hp hh (by decide)⟩
              · have E7 : a.tmps[7]? = some (.pointer (some ⟨gx, 0, none⟩)) := (same_of hsame 7 (by rfl)).trans rfl
                refine g_plain rfl ?_
                exact does_value (w' := W) (v := .pointer (some ⟨gx, 0, none⟩)) (by go_simp) ⟨(), .inr rfl, hS.step 6 (by decide) (by decide)⟩
              · have E10 : a.tmps[10]? = some (.pointer (some ⟨T, 0, none⟩)) := (same_of hsame 10 (by rfl)).trans rfl
                refine g_plain rfl ?_
                exact does_value (w' := W) (v := .pointer (some ⟨T, 6, none⟩)) (by go_simp) ⟨(), .inr rfl, hS.step 7 (by decide) (by decide)⟩
              · have E134 := hval 7 _ 134 rfl rfl (dep_of hdep 7 (by rfl))
                unfold la22Val at E134
                have c1 := ((HPQ.out W).1 hS.pp).1.cell 6 HC6.out
                refine g_plain rfl ?_
                exact does_value (w' := W) (v := .slice x.A2 x.keep.length x.c2) (by go_simp) ⟨(), .inr rfl, hS.step 8 (by decide) (by decide)⟩
              · have E10 : a.tmps[10]? = some (.pointer (some ⟨T, 0, none⟩)) := (same_of hsame 10 (by rfl)).trans rfl
                refine g_plain rfl ?_
                exact does_value (w' := W) (v := .pointer (some ⟨T, 4, none⟩)) (by go_simp) ⟨(), .inr rfl, hS.step 9 (by decide) (by decide)⟩
              · have E136 := hval 9 _ 136 rfl rfl (dep_of hdep 9 (by rfl))
                unfold la22Val at E136
                have c1 := ((HPQ.out W).1 hS.pp).1.cell 4 HC4.out
                refine g_plain rfl ?_
                exact does_value (w' := W) (v := .int .i64 x.n) (by go_simp) ⟨(), .inr rfl, hS.step 10 (by decide) (by decide)⟩
              · have E133 := hval 6 _ 133 rfl rfl (dep_of hdep 6 (by rfl))
                have E135 := hval 8 _ 135 rfl rfl (dep_of hdep 8 (by rfl))
                have E137 := hval 10 _ 137 rfl rfl (dep_of hdep 10 (by rfl))
                unfold la22Val at E133 E135 E137
                refine g_plain rfl ?_
                refine does_call 23 #[.pointer (some ⟨gx, 0, none⟩), .slice x.A2 x.keep.length x.c2, .int .i64 x.n] (by go_simp) ((HK2.out W _ (hS.pre2 hf)).mono ?_)
                rintro _ W' ⟨rfl, hp, hh⟩
                exact ⟨_, rfl, (), .inr rfl, hS.s2 hp hh (by decide)⟩
              · have E132 := hval 5 _ 132 rfl rfl (dep_of hdep 5 (by rfl))
                have E138 := hval 11 _ 138 rfl rfl (dep_of hdep 11 (by rfl))
                unfold la22Val at E132 E138
                refine g_plain rfl ?_
                exact does_value (w' := W) (v := .bool true) (by go_simp) ⟨(), .inr rfl, hS.step 12 (by decide) (by decide)⟩
              · have E139 := hval 12 _ 139 rfl rfl (dep_of hdep 12 (by rfl))
                unfold la22Val at E139
                refine g_plain rfl ?_
                exact does_value (w' := W) (v := .bool true) (by go_simp) ⟨(), .inr rfl, hS.step 13 (by decide) (by decide)⟩
            · intro gh w8 hS
              have HX8 := hid (hS.fin rfl rfl)
              have HP8 := hid hS.pp
              clear hS HST HK1 HK2 HPQ HPH HP7 HX2
              simp only [putAll, la22Val, Nat.reduceAdd, Nat.zero_add, Act.put, List.setIfInBounds_toArray, List.set_cons_zero, List.set_cons_succ]
              go_wp2_with fail
              go_meet
              exact ⟨rfl, HX8.out, HP8.out⟩
          have q4 : (x.k == 3) = false := by simp [k3]
          by_cases k4 : x.k = 4
          · have q5 : (x.k == 4) = true := by simp [k4]
            have HSZ := hid (show SZ = fuseS s x.n from by rw [HA.out, if_neg k0, if_neg k1, if_neg k2, if_neg k3, if_pos k4])
            have HK1 := hid (fun W S2 m' (h : DX w w.heap.size bx g gx m' [T, K] s S2 W) => h.own (v := .int .i64 (fuseE s x.n : Int)) (s' := SZ) (fun F hd hF => by rw [HSZ.out]; exact dFuse_calls w.heap.size g F s W x.n h.bb hd))
            have HK2 := hid (fun W S1 (h : DX w w.heap.size bx g gx (42 * k) [T, K] S1 s W) => h.ref (v := .int .i64 (fuseE s x.n : Int)) (s' := SZ) (m' := M) (fun F hd hF => by rw [HSZ.out]; exact (rFuse_calls bx gx (42 * k) F s W x.n HOK.out.nn.2 hd).mono (fun e W' hp => hp.up (by have := HM.out; omega))))
            generalize fuseE s x.n = ez at HK1 HK2
            clear HSZ HA k0 k1 k2 k3 k4
            have HST := hid (TwS.start (n := 10) (i1 := 3) (i2 := 7) (m2 := M) (SN := SZ) (gh := fun _ => ()) HPH.out HX2.out HP7.out (by decide) (by decide))
            go_wp2_with fail
            refine wp_region_invG 225 () (la24Val g gx T ez x.n) (TwS w w.heap.size bx g gx (42 * k) M [T, K] PP s SZ 3 7) (by kernel_rfl) (by kernel_rfl) (by exact Nat.le_refl 225) ?_ ?_ ?_
            · exact HST.out
            · intro i o f gh a W hi hf hdep hsame hcl hval hS
              rcases i with _ | _ | _ | _ | _ | _ | _ | _ | _ | _ | i
              all_goals simp only [List.getElem?_cons_succ, List.getElem?_cons_zero, List.getElem?_nil, Option.some.injEq, reduceCtorEq] at hi
              all_goals subst hi
              · have E5 : a.tmps[5]? = some (.pointer (some ⟨g, 0, none⟩)) := (same_of hsame 5 (by rfl)).trans rfl
                refine g_plain rfl ?_
                exact does_value (w' := W) (v := .pointer (some ⟨g, 0, none⟩)) (by go_simp) ⟨(), .inr rfl, hS.step 0 (by decide) (by decide)⟩
              · have E10 : a.tmps[10]? = some (.pointer (some ⟨T, 0, none⟩)) := (same_of hsame 10 (by rfl)).trans rfl
                refine g_plain rfl ?_
                exact does_value (w' := W) (v := .pointer (some ⟨T, 4, none⟩)) (by go_simp) ⟨(), .inr rfl, hS.step 1 (by decide) (by decide)⟩
              · have E143 := hval 1 _ 143 rfl rfl (dep_of hdep 1 (by rfl))
                unfold la24Val at E143
                have c1 := ((HPQ.out W).1 hS.pp).1.cell 4 HC4.out
                refine g_plain rfl ?_
                exact does_value (w' := W) (v := .int .i64 x.n) (by go_simp) ⟨(), .inr rfl, hS.step 2 (by decide) (by decide)⟩
              · have E142 := hval 0 _ 142 rfl rfl (dep_of hdep 0 (by rfl))
                have E144 := hval 2 _ 144 rfl rfl (dep_of hdep 2 (by rfl))
                unfold la24Val at E142 E144
                refine g_plain rfl ?_
                refine does_call 24 #[.pointer (some ⟨g, 0, none⟩), .int .i64 x.n] (by go_simp) ((HK1.out W _ _ (hS.pre1 hf)).mono ?_)
                rintro _ W' ⟨rfl, hp, hh⟩
                exact ⟨_, rfl, (), .inr rfl, hS.s1 hp hh (by decide)⟩
              · have E7 : a.tmps[7]? = some (.pointer (some ⟨gx, 0, none⟩)) := (same_of hsame 7 (by rfl)).trans rfl
                refine g_plain rfl ?_
                exact does_value (w' := W) (v := .pointer (some ⟨gx, 0, none⟩)) (by go_simp) ⟨(), .inr rfl, hS.step 4 (by decide) (by decide)⟩
              · have E10 : a.tmps[10]? = some (.pointer (some ⟨T, 0, none⟩)) := (same_of hsame 10 (by rfl)).trans rfl
                refine g_plain rfl ?_
                exact does_value (w' := W) (v := .pointer (some ⟨T, 4, none⟩)) (by go_simp) ⟨(), .inr rfl, hS.step 5 (by decide) (by decide)⟩
              · have E147 := hval 5 _ 147 rfl rfl (dep_of hdep 5 (by rfl))
                unfold la24Val at E147
                have c1 := ((HPQ.out W).1 hS.pp).1.cell 4 HC4.out
                refine g_plain rfl ?_
                exact does_value (w' := W) (v := .int .i64 x.n) (by go_simp) ⟨(), .inr rfl, hS.step 6 (by decide) (by decide)⟩
              · have E146 := hval 4 _ 146 rfl rfl (dep_of hdep 4 (by rfl))
                have E148 := hval 6 _ 148 rfl rfl (dep_of hdep 6 (by rfl))
                unfold la24Val at E146 E148
                refine g_plain rfl ?_
                refine does_call 25 #[.pointer (some ⟨gx, 0, none⟩), .int .i64 x.n] (by go_simp) ((HK2.out W _ (hS.pre2 hf)).mono ?_)
                rintro _ W' ⟨rfl, hp, hh⟩
                exact ⟨_, rfl, (), .inr rfl, hS.s2 hp hh (by decide)⟩
              · have E145 := hval 3 _ 145 rfl rfl (dep_of hdep 3 (by rfl))
                have E149 := hval 7 _ 149 rfl rfl (dep_of hdep 7 (by rfl))
                unfold la24Val at E145 E149
                refine g_plain rfl ?_
                exact does_value (w' := W) (v := .bool true) (by go_simp) ⟨(), .inr rfl, hS.step 8 (by decide) (by decide)⟩
              · have E150 := hval 8 _ 150 rfl rfl (dep_of hdep 8 (by rfl))
                unfold la24Val at E150
                refine g_plain rfl ?_
                exact does_value (w' := W) (v := .bool true) (by go_simp) ⟨(), .inr rfl, hS.step 9 (by decide) (by decide)⟩
            · intro gh w8 hS
              have HX8 := hid (hS.fin rfl rfl)
              have HP8 := hid hS.pp
              clear hS HST HK1 HK2 HPQ HPH HP7 HX2
              simp only [putAll, la24Val, Nat.reduceAdd, Nat.zero_add, Act.put, List.setIfInBounds_toArray, List.set_cons_zero, List.set_cons_succ]
              go_wp2_with fail
              go_meet
              exact ⟨rfl, HX8.out, HP8.out⟩
          have q5 : (x.k == 4) = false := by simp [k4]
          by_cases k5 : x.k = 5
          · have q6 : (x.k == 5) = true := by simp [k5]
            have HSZ := hid (show SZ = writeS s x.n (padS x.bs) from by rw [HA.out, if_neg k0, if_neg k1, if_neg k2, if_neg k3, if_neg k4, if_pos k5])
            have HSEC := hid (fun W (hb : Below w.heap.size w W) => (show Calls Try.prog 27 #[.slice x.A1 x.bs.length x.c1] W fun e w' => ∃ v, e = .returned v ∧ Own w' W.heap.size 5 v (padS x.bs).length (padS x.bs) ∧ Below W.heap.size W w' from by rw [padS_len]; exact sector_calls _ _ x.c1 x.A1 x.bs W (HOK.out.keep hb).sb))
            have HK1 := hid (fun W S2 m' H A5 c5 (h : DX w w.heap.size bx g gx m' H s S2 W) (hs : SB W W.heap.size A5 (padS x.bs).length (padS x.bs)) (hm : ∀ b off, A5 = some ⟨b, off, none⟩ → b ∈ H) => h.own (v := .int .i64 (writeE s x.n (padS x.bs).length : Int)) (s' := SZ) (args := #[.pointer (some ⟨g, 0, none⟩), .int .i64 x.n, .slice A5 (padS x.bs).length c5]) (fun F hd hF => by rw [HSZ.out]; exact dWrite_calls w.heap.size g F s W x.n _ _ c5 A5 _ hd h.bb HFZ.out (by have := HLOS.out; omega) hs (fun b off e => hF b (hm b off e))))
            have HK2 := hid (fun W S1 H A5 c5 (h : DX w w.heap.size bx g gx (42 * k) H S1 s W) (hs : SB W W.heap.size A5 (padS x.bs).length (padS x.bs)) (hm : ∀ b off, A5 = some ⟨b, off, none⟩ → b ∈ H) => h.ref (v := .int .i64 (writeE s x.n (padS x.bs).length : Int)) (s' := SZ) (m' := M) (args := #[.pointer (some ⟨gx, 0, none⟩), .int .i64 x.n, .slice A5 (padS x.bs).length c5]) (fun F hd hF => by rw [HSZ.out]; exact (rWrite_calls bx gx (42 * k) F s W x.n _ _ c5 A5 _ (by omega) hd h.bxb (by have := HLOS.out; omega) hs (fun b off e => hF b (hm b off e))).mono (fun e W' hp => hp.up (by have := HM.out; omega))))
            generalize padS x.bs = bs at HSEC HK1 HK2 HSZ
            generalize writeE s x.n bs.length = ez at HK1 HK2
            have HST := hid (D2S.start (m2 := M) (SN := SZ) (bs := bs) (i5 := 5) (i6 := 6) (i12 := 12) (i13 := 13) (n := 16) (PP := PP) HPH.out HX2.out HP7.out (.inl (by decide)) (by decide) (by decide) (by decide))
            clear HSZ HA k0 k1 k2 k3 k4 k5
            go_wp2_with fail
            refine wp_region_invG 225 (.pointer none) (la26Val g gx T ez x.n x.A1 x.bs.length x.c1) (D2S w w.heap.size bx g gx (42 * k) M [T, K] PP s SZ bs 5 6 12 13) (by kernel_rfl) (by kernel_rfl) (by exact Nat.le_refl 225) ?_ ?_ ?_
            · exact HST.out
            · intro i o f gh a W hi hf hdep hsame hcl hval hS
              rcases i with _ | _ | _ | _ | _ | _ | _ | _ | _ | _ | _ | _ | _ | _ | _ | _ | i
              all_goals simp only [List.getElem?_cons_succ, List.getElem?_cons_zero, List.getElem?_nil, Option.some.injEq, reduceCtorEq] at hi
              all_goals subst hi
              · have E5 : a.tmps[5]? = some (.pointer (some ⟨g, 0, none⟩)) := (same_of hsame 5 (by rfl)).trans rfl
                refine g_plain rfl ?_
                exact does_value (w' := W) (v := .pointer (some ⟨g, 0, none⟩)) (by go_simp) ⟨.pointer none, .inr rfl, hS.step 0 (.pointer none) (by decide) (by decide) (by decide) (by decide)⟩
              · have E10 : a.tmps[10]? = some (.pointer (some ⟨T, 0, none⟩)) := (same_of hsame 10 (by rfl)).trans rfl
                refine g_plain rfl ?_
                exact does_value (w' := W) (v := .pointer (some ⟨T, 4, none⟩)) (by go_simp) ⟨.pointer none, .inr rfl, hS.step 1 (.pointer none) (by decide) (by decide) (by decide) (by decide)⟩
              · have E154 := hval 1 _ 154 rfl rfl (dep_of hdep 1 (by rfl))
                unfold la26Val at E154
                have c1 := ((HPQ.out W).1 hS.pp).1.cell 4 HC4.out
                refine g_plain rfl ?_
                exact does_value (w' := W) (v := .int .i64 x.n) (by go_simp) ⟨.pointer none, .inr rfl, hS.step 2 (.pointer none) (by decide) (by decide) (by decide) (by decide)⟩
              · have E10 : a.tmps[10]? = some (.pointer (some ⟨T, 0, none⟩)) := (same_of hsame 10 (by rfl)).trans rfl
                refine g_plain rfl ?_
                exact does_value (w' := W) (v := .pointer (some ⟨T, 5, none⟩)) (by go_simp) ⟨.pointer none, .inr rfl, hS.step 3 (.pointer none) (by decide) (by decide) (by decide) (by decide)⟩
              · have E156 := hval 3 _ 156 rfl rfl (dep_of hdep 3 (by rfl))
                unfold la26Val at E156
                have c1 := ((HPQ.out W).1 hS.pp).1.cell 5 HC5.out
                refine g_plain rfl ?_
                exact does_value (w' := W) (v := .slice x.A1 x.bs.length x.c1) (by go_simp) ⟨.pointer none, .inr rfl, hS.step 4 (.pointer none) (by decide) (by decide) (by decide) (by decide)⟩
              · have E157 := hval 4 _ 157 rfl rfl (dep_of hdep 4 (by rfl))
                unfold la26Val at E157
                refine g_plain rfl ?_
                have n6 := not_yet hcl hf 6 (by rfl)
                refine does_call 27 #[.slice x.A1 x.bs.length x.c1] (by go_simp) ((HSEC.out W hS.wx.bel).mono ?_)
                rintro _ W' ⟨v, rfl, ho, hB⟩
                exact ⟨v, rfl, v, .inr rfl, hS.s5 hf n6 (by decide) (by decide) (by decide) ho hB⟩
              · have E153 := hval 0 _ 153 rfl rfl (dep_of hdep 0 (by rfl))
                have E155 := hval 2 _ 155 rfl rfl (dep_of hdep 2 (by rfl))
                have E158 := hval 5 _ 158 rfl rfl (dep_of hdep 5 (by rfl))
                unfold la26Val at E153 E155 E158
                refine g_plain rfl ?_
                have ho := hS.o5 (by decide) (dep_of hdep 5 (by rfl)) hf
                obtain ⟨A7, c7, ev7, -, sb7, -⟩ := ho.sb
                rw [ev7] at E158
                refine does_call 26 #[.pointer (some ⟨g, 0, none⟩), .int .i64 x.n, .slice A7 bs.length c7] (by go_simp) ((HK1.out W _ _ _ A7 c7 (hS.pre6 hf) sb7 (fun b off e => by rw [if_pos (c := f 5 = true ∧ f 6 = false) ⟨dep_of hdep 5 (by rfl), hf⟩, ev7, e]; simp [Value.ownBlock])).mono ?_)
                rintro _ W' ⟨rfl, hp, hh⟩
                exact ⟨_, rfl, .pointer none, .inr rfl, hS.s6 (by decide) (by decide) (by decide) hp hh⟩
              · have E7 : a.tmps[7]? = some (.pointer (some ⟨gx, 0, none⟩)) := (same_of hsame 7 (by rfl)).trans rfl
                refine g_plain rfl ?_
                exact does_value (w' := W) (v := .pointer (some ⟨gx, 0, none⟩)) (by go_simp) ⟨.pointer none, .inr rfl, hS.step 7 (.pointer none) (by decide) (by decide) (by decide) (by decide)⟩
              · have E10 : a.tmps[10]? = some (.pointer (some ⟨T, 0, none⟩)) := (same_of hsame 10 (by rfl)).trans rfl
                refine g_plain rfl ?_
                exact does_value (w' := W) (v := .pointer (some ⟨T, 4, none⟩)) (by go_simp) ⟨.pointer none, .inr rfl, hS.step 8 (.pointer none) (by decide) (by decide) (by decide) (by decide)⟩
              · have E161 := hval 8 _ 161 rfl rfl (dep_of hdep 8 (by rfl))
                unfold la26Val at E161
                have c1 := ((HPQ.out W).1 hS.pp).1.cell 4 HC4.out
                refine g_plain rfl ?_
                exact does_value (w' := W) (v := .int .i64 x.n) (by go_simp) ⟨.pointer none, .inr rfl, hS.step 9 (.pointer none) (by decide) (by decide) (by decide) (by decide)⟩
              · have E10 : a.tmps[10]? = some (.pointer (some ⟨T, 0, none⟩)) := (same_of hsame 10 (by rfl)).trans rfl
                refine g_plain rfl ?_
                exact does_value (w' := W) (v := .pointer (some ⟨T, 5, none⟩)) (by go_simp) ⟨.pointer none, .inr rfl, hS.step 10 (.pointer none) (by decide) (by decide) (by decide) (by decide)⟩
              · have E163 := hval 10 _ 163 rfl rfl (dep_of hdep 10 (by rfl))
                unfold la26Val at E163
                have c1 := ((HPQ.out W).1 hS.pp).1.cell 5 HC5.out
                refine g_plain rfl ?_
                exact does_value (w' := W) (v := .slice x.A1 x.bs.length x.c1) (by go_simp) ⟨.pointer none, .inr rfl, hS.step 11 (.pointer none) (by decide) (by decide) (by decide) (by decide)⟩
              · have E164 := hval 11 _ 164 rfl rfl (dep_of hdep 11 (by rfl))
                unfold la26Val at E164
                refine g_plain rfl ?_
                have n13 := not_yet hcl hf 13 (by rfl)
                refine does_call 27 #[.slice x.A1 x.bs.length x.c1] (by go_simp) ((HSEC.out W hS.wx.bel).mono ?_)
                rintro _ W' ⟨v, rfl, ho, hB⟩
                exact ⟨v, rfl, v, .inr rfl, hS.s12 hf n13 (by decide) (by decide) (by decide) ho hB⟩
              · have E160 := hval 7 _ 160 rfl rfl (dep_of hdep 7 (by rfl))
                have E162 := hval 9 _ 162 rfl rfl (dep_of hdep 9 (by rfl))
                have E165 := hval 12 _ 165 rfl rfl (dep_of hdep 12 (by rfl))
                unfold la26Val at E160 E162 E165
                refine g_plain rfl ?_
                have ho := hS.o12 (dep_of hdep 12 (by rfl)) hf
                obtain ⟨A7, c7, ev7, -, sb7, -⟩ := ho.sb
                rw [ev7] at E165
                refine does_call 28 #[.pointer (some ⟨gx, 0, none⟩), .int .i64 x.n, .slice A7 bs.length c7] (by go_simp) ((HK2.out W _ _ A7 c7 (hS.pre13 hf) sb7 (fun b off e => by rw [if_pos (c := f 12 = true ∧ f 13 = false) ⟨dep_of hdep 12 (by rfl), hf⟩, ev7, e]; simp [Value.ownBlock])).mono ?_)
                rintro _ W' ⟨rfl, hp, hh⟩
                exact ⟨_, rfl, .pointer none, .inr rfl, hS.s13 (by decide) (by decide) (by decide) hp hh⟩
              · have E159 := hval 6 _ 159 rfl rfl (dep_of hdep 6 (by rfl))
                have E166 := hval 13 _ 166 rfl rfl (dep_of hdep 13 (by rfl))
                unfold la26Val at E159 E166
                refine g_plain rfl ?_
                exact does_value (w' := W) (v := .bool true) (by go_simp) ⟨.pointer none, .inr rfl, hS.step 14 (.pointer none) (by decide) (by decide) (by decide) (by decide)⟩
              · have E167 := hval 14 _ 167 rfl rfl (dep_of hdep 14 (by rfl))
                unfold la26Val at E167
                refine g_plain rfl ?_
                exact does_value (w' := W) (v := .bool true) (by go_simp) ⟨.pointer none, .inr rfl, hS.step 15 (.pointer none) (by decide) (by decide) (by decide) (by decide)⟩
            · intro gh w8 hS
              have HX8 := hid (hS.fin rfl rfl)
              have HP8 := hid hS.pp
              clear hS HST HK1 HK2 HPQ HPH HP7 HX2 HSEC
              simp only [putAll, la26Val, Nat.reduceAdd, Nat.zero_add, Act.put, List.setIfInBounds_toArray, List.set_cons_zero, List.set_cons_succ]
              go_wp2_with fail
              go_meet
              exact ⟨rfl, HX8.out, HP8.out⟩
          have q6 : (x.k == 5) = false := by simp [k5]
          have HSZ := hid (show SZ = s from by rw [HA.out, if_neg k0, if_neg k1, if_neg k2, if_neg k3, if_neg k4, if_neg k5])
          have HX8 : Hid (DX w w.heap.size bx g gx M [T, K] SZ SZ w7) := by
            rw [HSZ.out]
            obtain ⟨⟨F, Fx, h1, h2, h3⟩, h4, h5, h6, h7, h8⟩ := HX2.out
            exact ⟨⟨F, Fx, h1, h2.up (by have := HM.out; omega), h3⟩, h4, h5, h6, h7, h8⟩
          have HP8 := hid HP7.out
          clear HSZ HA k0 k1 k2 k3 k4 k5 HPQ HPH HP7 HX2
          go_wp2_with fail
          go_meet
          exact ⟨rfl, HX8.out, HP8.out⟩
        case rest =>
          obtain ⟨rfl, hx8, hp8⟩ := hcut
          have HX8 := hid hx8
          have HP8 := hid ((HPQ.out wc).1 hp8)
          clear hx8 hp8 HPQ HPH HP7 HX2 HA
          go_wp2_with fail
          refine (overBytes_calls _ x.bs.length cK _ x.bs _ HP8.out.2.1 (by omega)).mono ?_
          rintro _ w9 ⟨rfl, hg⟩
          have HCG := hid (Chg.of_grown (L := [K]) hg (fun b e => by cases e; simp))
          have HX9 := hid ((HX8.out.high HCG.out (fun b hb => by rw [List.mem_singleton.1 hb]; exact ⟨by simp, HKz.out⟩)).less (H' := [T]) (fun b hb => by rw [List.mem_singleton.1 hb]; simp))
          have HT9 := hid (HP8.out.1.chg HCG.out (by have := HTK.out; simp; omega))
          clear hg HX8 HP8 HCG
          have HRA := hid (run_load_area HT9.out HC1.out HC2.out HC3.out)
          have HSO := hid (HX9.out.scanO x.a)
          have HSR := hid (fun W H' (h : DX w w.heap.size bx g gx M H' SZ SZ W) => h.scanR x.a (by have := HSN.out; omega) (by have := HSN.out; omega) (by have := HAB.out.1; omega))
          have HSM := hid (scan_small (s := SZ) (by have := HSN.out; omega) x.a)
          generalize (scanR SZ x.a).1 = l at HSO HSR HSM
          generalize (scanR SZ x.a).2 = mm at HSO HSR
          generalize scanE SZ x.a = ee at HSO HSR
          go_wp2_with (refine wpList_load_run rfl 33 _ rfl _ _ rfl HRA.out ?_)
          refine HSO.out.mono ?_
          rintro _ w10 ⟨v1, us1, rfl, hr1, hb1⟩
          have HR1 := hid (hr1.lower HX9.out.bel.size)
          have HX10 := hid (HX9.out.more (H' := T :: recBlocks v1 us1) hb1 (fun b hb => by
            rcases List.mem_cons.1 hb with h | h
            · exact .inl (by rw [h]; simp)
            · exact .inr (hr1.lt b (mem_recBlocks.1 h))))
          have HT10 := hid (HT9.out.keep hb1)
          have HRA2 := hid (run_load_area HT10.out HC1.out HC2.out HC3.out)
          have HSQ := hid (HSR.out _ _ HX10.out)
          clear hr1 hb1 HSO HSR HRA HX9 HT9
          go_wp2_with (refine wpList_load_run rfl 33 _ rfl _ _ rfl HRA2.out ?_)
          refine HSQ.out.mono ?_
          rintro _ w11 ⟨v2, us2, rfl, hr2, hb2⟩
          have HX11 := hid (HX10.out.keep hb2)
          have HR11 := hid (HR1.out.keep hb2)
          have HT11 := hid (HT10.out.keep hb2)
          have HR2 := hid hr2
          obtain ⟨A1, c1, rfl, -, -⟩ := HR11.out.sl
          obtain ⟨A2, c2, rfl, -, -⟩ := hr2.sl
          clear hr2 hb2 HX10 HR1 HT10 HRA2 HSQ
          have HSL := hid (fun W (hW : Below w11.heap.size w11 W) => same_recs (HR11.out.keep hW) (HR2.out.keep hW) (by have := HSM.out.1; omega))
          have HCO := hid (fun W (hW : Below w11.heap.size w11 W) => ((HX11.out.keep hW).checks x.a (by have := HSN.out; omega)).1)
          have HCR := hid (fun W (hW : Below w11.heap.size w11 W) => ((HX11.out.keep hW).checks x.a (by have := HSN.out; omega)).2)
          have HLO := hid (fun W (hW : Below w11.heap.size w11 W) => (HX11.out.keep hW).looses.1)
          have HLR := hid (fun W (hW : Below w11.heap.size w11 W) => (HX11.out.keep hW).looses.2)
          generalize checkE SZ.n x.a = ce at HCO HCR
          generalize SZ.loose.length = ll at HLO HLR
          have HST := hid (show CkS w11 (fun j => decide (36 ≤ j)) (fun _ => ()) w11.drew from (Below.refl _ _).drew)
          go_wp2_with fail
          refine wp_region_invG 225 () (la30Val g gx T l.length c1 c2 mm ee ce ll x.a A1 A2) (CkS w11) (by kernel_rfl) (by kernel_rfl) (by exact Nat.le_refl 225) ?_ ?_ ?_
          · exact HST.out
          · intro i o f gh a W hi hf hdep hsame hcl hval hS
            rcases i with _ | _ | _ | _ | _ | _ | _ | _ | _ | _ | _ | _ | _ | _ | _ | _ | _ | _ | _ | _ | _ | _ | _ | _ | _ | _ | _ | _ | _ | _ | _ | _ | _ | _ | _ | _ | i
            all_goals simp only [List.getElem?_cons_succ, List.getElem?_cons_zero, List.getElem?_nil, Option.some.injEq, reduceCtorEq] at hi
            all_goals subst hi
            · have E11 : a.tmps[11]? = some (.bool true) := (same_of hsame 11 (by rfl)).trans rfl
              refine g_plain rfl ?_
              exact does_value (w' := W) (v := .bool true) (by go_simp) ⟨(), .inr rfl, hS⟩
            · have E186 := hval 0 _ 186 rfl rfl (dep_of hdep 0 (by rfl))
              unfold la30Val at E186
              refine g_plain rfl ?_
              exact does_value (w' := W) (v := .bool false) (by go_simp) ⟨(), .inr rfl, hS⟩
            · have E187 := hval 1 _ 187 rfl rfl (dep_of hdep 1 (by rfl))
              unfold la30Val at E187
              refine g_plain rfl ?_
              exact does_value (w' := W) (v := .bool false) (by go_simp) ⟨(), .inr rfl, hS⟩
            · have EG := hval 2 _ 188 rfl rfl (dep_of hdep 2 (by rfl))
              have E17 : a.tmps[17]? = some (.slice A1 l.length c1) := (same_of hsame 17 (by rfl)).trans rfl
              unfold la30Val at EG
              refine g_want rfl rfl rfl EG ?_
              exact does_value (w' := W) (v := .slice A1 l.length c1) (by go_simp) ⟨(), .inr rfl, hS⟩
            · have EG := hval 2 _ 188 rfl rfl (dep_of hdep 2 (by rfl))
              have E20 : a.tmps[20]? = some (.slice A2 l.length c2) := (same_of hsame 20 (by rfl)).trans rfl
              unfold la30Val at EG
              refine g_want rfl rfl rfl EG ?_
              exact does_value (w' := W) (v := .slice A2 l.length c2) (by go_simp) ⟨(), .inr rfl, hS⟩
            · have EG := hval 2 _ 188 rfl rfl (dep_of hdep 2 (by rfl))
              have E189 := hval 3 _ 189 rfl rfl (dep_of hdep 3 (by rfl))
              have E190 := hval 4 _ 190 rfl rfl (dep_of hdep 4 (by rfl))
              unfold la30Val at EG E189 E190
              refine g_want rfl rfl rfl EG ?_
              refine does_call 32 #[.slice A1 l.length c1, .slice A2 l.length c2] (by go_simp) ((HSL.out W hS).mono ?_)
              rintro _ W' ⟨rfl, hb⟩
              exact ⟨_, rfl, (), .inr rfl, show Below w11.heap.size w11 W' from Below.trans hS (hb.mono (Below.size hS))⟩
            · have EG := hval 2 _ 188 rfl rfl (dep_of hdep 2 (by rfl))
              have E191 := hval 5 _ 191 rfl rfl (dep_of hdep 5 (by rfl))
              unfold la30Val at EG E191
              refine g_want rfl rfl rfl EG ?_
              exact does_value (w' := W) (v := .bool false) (by go_simp) ⟨(), .inr rfl, hS⟩
            · have E188 := hval 2 _ 188 rfl rfl (dep_of hdep 2 (by rfl))
              have E192 := hval 6 _ 192 rfl rfl (dep_of hdep 6 (by rfl))
              unfold la30Val at E188 E192
              refine g_plain rfl ?_
              exact does_value (w' := W) (v := .bool false) (by go_simp) ⟨(), .inr rfl, hS⟩
            · have E193 := hval 7 _ 193 rfl rfl (dep_of hdep 7 (by rfl))
              unfold la30Val at E193
              refine g_plain rfl ?_
              exact does_value (w' := W) (v := .bool false) (by go_simp) ⟨(), .inr rfl, hS⟩
            · have EG := hval 8 _ 194 rfl rfl (dep_of hdep 8 (by rfl))
              have E18 : a.tmps[18]? = some (.int .i64 (mm : Int)) := (same_of hsame 18 (by rfl)).trans rfl
              unfold la30Val at EG
              refine g_want rfl rfl rfl EG ?_
              exact does_value (w' := W) (v := .int .i64 (mm : Int)) (by go_simp) ⟨(), .inr rfl, hS⟩
            · have EG := hval 8 _ 194 rfl rfl (dep_of hdep 8 (by rfl))
              have E21 : a.tmps[21]? = some (.int .i64 (mm : Int)) := (same_of hsame 21 (by rfl)).trans rfl
              unfold la30Val at EG
              refine g_want rfl rfl rfl EG ?_
              exact does_value (w' := W) (v := .int .i64 (mm : Int)) (by go_simp) ⟨(), .inr rfl, hS⟩
            · have EG := hval 8 _ 194 rfl rfl (dep_of hdep 8 (by rfl))
              have E195 := hval 9 _ 195 rfl rfl (dep_of hdep 9 (by rfl))
              have E196 := hval 10 _ 196 rfl rfl (dep_of hdep 10 (by rfl))
              unfold la30Val at EG E195 E196
              refine g_want rfl rfl rfl EG ?_
              exact does_value (w' := W) (v := .bool false) (by go_simp) ⟨(), .inr rfl, hS⟩
            · have E194 := hval 8 _ 194 rfl rfl (dep_of hdep 8 (by rfl))
              have E197 := hval 11 _ 197 rfl rfl (dep_of hdep 11 (by rfl))
              unfold la30Val at E194 E197
              refine g_plain rfl ?_
              exact does_value (w' := W) (v := .bool false) (by go_simp) ⟨(), .inr rfl, hS⟩
            · have E198 := hval 12 _ 198 rfl rfl (dep_of hdep 12 (by rfl))
              unfold la30Val at E198
              refine g_plain rfl ?_
              exact does_value (w' := W) (v := .bool false) (by go_simp) ⟨(), .inr rfl, hS⟩
            · have EG := hval 13 _ 199 rfl rfl (dep_of hdep 13 (by rfl))
              have E19 : a.tmps[19]? = some (.int .i64 (ee : Int)) := (same_of hsame 19 (by rfl)).trans rfl
              unfold la30Val at EG
              refine g_want rfl rfl rfl EG ?_
              exact does_value (w' := W) (v := .int .i64 (ee : Int)) (by go_simp) ⟨(), .inr rfl, hS⟩
            · have EG := hval 13 _ 199 rfl rfl (dep_of hdep 13 (by rfl))
              have E22 : a.tmps[22]? = some (.int .i64 (ee : Int)) := (same_of hsame 22 (by rfl)).trans rfl
              unfold la30Val at EG
              refine g_want rfl rfl rfl EG ?_
              exact does_value (w' := W) (v := .int .i64 (ee : Int)) (by go_simp) ⟨(), .inr rfl, hS⟩
            · have EG := hval 13 _ 199 rfl rfl (dep_of hdep 13 (by rfl))
              have E200 := hval 14 _ 200 rfl rfl (dep_of hdep 14 (by rfl))
              have E201 := hval 15 _ 201 rfl rfl (dep_of hdep 15 (by rfl))
              unfold la30Val at EG E200 E201
              refine g_want rfl rfl rfl EG ?_
              exact does_value (w' := W) (v := .bool false) (by go_simp) ⟨(), .inr rfl, hS⟩
            · have E199 := hval 13 _ 199 rfl rfl (dep_of hdep 13 (by rfl))
              have E202 := hval 16 _ 202 rfl rfl (dep_of hdep 16 (by rfl))
              unfold la30Val at E199 E202
              refine g_plain rfl ?_
              exact does_value (w' := W) (v := .bool false) (by go_simp) ⟨(), .inr rfl, hS⟩
            · have E203 := hval 17 _ 203 rfl rfl (dep_of hdep 17 (by rfl))
              unfold la30Val at E203
              refine g_plain rfl ?_
              exact does_value (w' := W) (v := .bool false) (by go_simp) ⟨(), .inr rfl, hS⟩
            · have EG := hval 18 _ 204 rfl rfl (dep_of hdep 18 (by rfl))
              have E5 : a.tmps[5]? = some (.pointer (some ⟨g, 0, none⟩)) := (same_of hsame 5 (by rfl)).trans rfl
              unfold la30Val at EG
              refine g_want rfl rfl rfl EG ?_
              exact does_value (w' := W) (v := .pointer (some ⟨g, 0, none⟩)) (by go_simp) ⟨(), .inr rfl, hS⟩
            · have EG := hval 18 _ 204 rfl rfl (dep_of hdep 18 (by rfl))
              have E10 : a.tmps[10]? = some (.pointer (some ⟨T, 0, none⟩)) := (same_of hsame 10 (by rfl)).trans rfl
              unfold la30Val at EG
              refine g_want rfl rfl rfl EG ?_
              exact does_value (w' := W) (v := .pointer (some ⟨T, 1, none⟩)) (by go_simp) ⟨(), .inr rfl, hS⟩
            · have EG := hval 18 _ 204 rfl rfl (dep_of hdep 18 (by rfl))
              have E206 := hval 20 _ 206 rfl rfl (dep_of hdep 20 (by rfl))
              unfold la30Val at EG E206
              refine g_want rfl rfl rfl EG ?_
              exact does_load_runL 33 _ rfl ⟨T, 1, none⟩ (arv x.a) (by rw [eval_getD, E206]; rfl) (run_load_area (HT11.out.keep hS) HC1.out HC2.out HC3.out) ⟨(), .inr rfl, hS⟩
            · have EG := hval 18 _ 204 rfl rfl (dep_of hdep 18 (by rfl))
              have E205 := hval 19 _ 205 rfl rfl (dep_of hdep 19 (by rfl))
              have E207 := hval 21 _ 207 rfl rfl (dep_of hdep 21 (by rfl))
              unfold la30Val at EG E205 E207
              refine g_want rfl rfl rfl EG ?_
              refine does_call 33 #[.pointer (some ⟨g, 0, none⟩), arv x.a] (by go_simp) ((HCO.out W hS).mono ?_)
              rintro _ W' ⟨rfl, hb⟩
              exact ⟨_, rfl, (), .inr rfl, show Below w11.heap.size w11 W' from Below.trans hS (hb.mono (Below.size hS))⟩
            · have EG := hval 18 _ 204 rfl rfl (dep_of hdep 18 (by rfl))
              have E7 : a.tmps[7]? = some (.pointer (some ⟨gx, 0, none⟩)) := (same_of hsame 7 (by rfl)).trans rfl
              unfold la30Val at EG
              refine g_want rfl rfl rfl EG ?_
              exact does_value (w' := W) (v := .pointer (some ⟨gx, 0, none⟩)) (by go_simp) ⟨(), .inr rfl, hS⟩
            · have EG := hval 18 _ 204 rfl rfl (dep_of hdep 18 (by rfl))
              have E10 : a.tmps[10]? = some (.pointer (some ⟨T, 0, none⟩)) := (same_of hsame 10 (by rfl)).trans rfl
              unfold la30Val at EG
              refine g_want rfl rfl rfl EG ?_
              exact does_value (w' := W) (v := .pointer (some ⟨T, 1, none⟩)) (by go_simp) ⟨(), .inr rfl, hS⟩
            · have EG := hval 18 _ 204 rfl rfl (dep_of hdep 18 (by rfl))
              have E210 := hval 24 _ 210 rfl rfl (dep_of hdep 24 (by rfl))
              unfold la30Val at EG E210
              refine g_want rfl rfl rfl EG ?_
              exact does_load_runL 33 _ rfl ⟨T, 1, none⟩ (arv x.a) (by rw [eval_getD, E210]; rfl) (run_load_area (HT11.out.keep hS) HC1.out HC2.out HC3.out) ⟨(), .inr rfl, hS⟩
            · have EG := hval 18 _ 204 rfl rfl (dep_of hdep 18 (by rfl))
              have E209 := hval 23 _ 209 rfl rfl (dep_of hdep 23 (by rfl))
              have E211 := hval 25 _ 211 rfl rfl (dep_of hdep 25 (by rfl))
              unfold la30Val at EG E209 E211
              refine g_want rfl rfl rfl EG ?_
              refine does_call 34 #[.pointer (some ⟨gx, 0, none⟩), arv x.a] (by go_simp) ((HCR.out W hS).mono ?_)
              rintro _ W' ⟨rfl, hb⟩
              exact ⟨_, rfl, (), .inr rfl, show Below w11.heap.size w11 W' from Below.trans hS (hb.mono (Below.size hS))⟩
            · have EG := hval 18 _ 204 rfl rfl (dep_of hdep 18 (by rfl))
              have E208 := hval 22 _ 208 rfl rfl (dep_of hdep 22 (by rfl))
              have E212 := hval 26 _ 212 rfl rfl (dep_of hdep 26 (by rfl))
              unfold la30Val at EG E208 E212
              refine g_want rfl rfl rfl EG ?_
              exact does_value (w' := W) (v := .bool false) (by go_simp) ⟨(), .inr rfl, hS⟩
            · have E204 := hval 18 _ 204 rfl rfl (dep_of hdep 18 (by rfl))
              have E213 := hval 27 _ 213 rfl rfl (dep_of hdep 27 (by rfl))
              unfold la30Val at E204 E213
              refine g_plain rfl ?_
              exact does_value (w' := W) (v := .bool false) (by go_simp) ⟨(), .inr rfl, hS⟩
            · have E214 := hval 28 _ 214 rfl rfl (dep_of hdep 28 (by rfl))
              unfold la30Val at E214
              refine g_plain rfl ?_
              exact does_value (w' := W) (v := .bool false) (by go_simp) ⟨(), .inr rfl, hS⟩
            · have EG := hval 29 _ 215 rfl rfl (dep_of hdep 29 (by rfl))
              have E5 : a.tmps[5]? = some (.pointer (some ⟨g, 0, none⟩)) := (same_of hsame 5 (by rfl)).trans rfl
              unfold la30Val at EG
              refine g_want rfl rfl rfl EG ?_
              exact does_value (w' := W) (v := .pointer (some ⟨g, 0, none⟩)) (by go_simp) ⟨(), .inr rfl, hS⟩
            · have EG := hval 29 _ 215 rfl rfl (dep_of hdep 29 (by rfl))
              have E216 := hval 30 _ 216 rfl rfl (dep_of hdep 30 (by rfl))
              unfold la30Val at EG E216
              refine g_want rfl rfl rfl EG ?_
              refine does_call 35 #[.pointer (some ⟨g, 0, none⟩)] (by go_simp) ((HLO.out W hS).mono ?_)
              rintro _ _ ⟨rfl, rfl⟩
              exact ⟨_, rfl, (), .inr rfl, hS⟩
            · have EG := hval 29 _ 215 rfl rfl (dep_of hdep 29 (by rfl))
              have E7 : a.tmps[7]? = some (.pointer (some ⟨gx, 0, none⟩)) := (same_of hsame 7 (by rfl)).trans rfl
              unfold la30Val at EG
              refine g_want rfl rfl rfl EG ?_
              exact does_value (w' := W) (v := .pointer (some ⟨gx, 0, none⟩)) (by go_simp) ⟨(), .inr rfl, hS⟩
            · have EG := hval 29 _ 215 rfl rfl (dep_of hdep 29 (by rfl))
              have E218 := hval 32 _ 218 rfl rfl (dep_of hdep 32 (by rfl))
              unfold la30Val at EG E218
              refine g_want rfl rfl rfl EG ?_
              refine does_call 36 #[.pointer (some ⟨gx, 0, none⟩)] (by go_simp) ((HLR.out W hS).mono ?_)
              rintro _ _ ⟨rfl, rfl⟩
              exact ⟨_, rfl, (), .inr rfl, hS⟩
            · have EG := hval 29 _ 215 rfl rfl (dep_of hdep 29 (by rfl))
              have E217 := hval 31 _ 217 rfl rfl (dep_of hdep 31 (by rfl))
              have E219 := hval 33 _ 219 rfl rfl (dep_of hdep 33 (by rfl))
              unfold la30Val at EG E217 E219
              refine g_want rfl rfl rfl EG ?_
              exact does_value (w' := W) (v := .bool false) (by go_simp) ⟨(), .inr rfl, hS⟩
            · have E215 := hval 29 _ 215 rfl rfl (dep_of hdep 29 (by rfl))
              have E220 := hval 34 _ 220 rfl rfl (dep_of hdep 34 (by rfl))
              unfold la30Val at E215 E220
              refine g_plain rfl ?_
              exact does_value (w' := W) (v := .bool false) (by go_simp) ⟨(), .inr rfl, hS⟩
          · intro gh w12 hS
            have HX12 := hid (HX11.out.keep (show Below w11.heap.size w11 w12 from hS))
            have HR12 := hid (HR11.out.keep (show Below w11.heap.size w11 w12 from hS))
            clear hS HST HSL HCO HCR HLO HLR HX11 HR11 HT11 HR2
            simp only [putAll, la30Val, Nat.reduceAdd, Nat.zero_add, Act.put, List.setIfInBounds_toArray, List.set_cons_zero, List.set_cons_succ]
            go_wp2_with fail
            refine (overLists_calls A1 c1 w.heap.size l us1 _ HR12.out (fun y hy => HSM.out.2 y hy) HSM.out.1).mono ?_
            rintro _ w13 ⟨rfl, hc13⟩
            have HX13 := hid ((HX12.out.high hc13 (fun b hb => ⟨List.mem_cons_of_mem _ hb, (HR12.out.lt b (mem_recBlocks.1 hb)).1⟩)).less (H' := []) (fun b hb => by cases hb))
            clear hc13 HX12 HR12
            go_wp2_with fail
            go_roundw
            case rel =>
              repeat apply Exists.intro
              refine ⟨?_, rfl⟩
              exact ⟨k + 1, SZ, .inl (by omega), fun _ => rfl, by go_num, HAB.out.up (by omega), by have h := HX13.out; rw [HM.out] at h; exact h⟩
            case measure => simp [intOf]; omega
      · have q0 : ¬ (k : Int) < (n : Int) := by omega
        go_wp2_with fail
        refine HLW.out.mono ?_
        rintro _ _ ⟨rfl, rfl⟩
        go_wp2_with fail
        refine (awake_calls wr).mono ?_
        rintro _ w9 ⟨rfl, hb⟩
        have HB := hid (HX.out.bel.trans (hb.mono HX.out.bel.size))
        clear hb
        go_wp2_with fail
        go_ret
        exact ⟨rfl, HB.out⟩
end Go.Proofs.Ytiejndkchcljdaa
