/- Contracts of the document's side: writes, Descs. -/
import Derived.Test.YtfmbnlnnfoonjaaWrRefW
import Derived.Test.YtfmbnlnnfoonjaaMdWrong
import Derived.Test.YtfmbnlnnfoonjaaMdConc
namespace Go.Proofs.Ytfmbnlnnfoonjaa
open Go.RowKit

def descW (lim : Nat) (s : WS) (d : DD) : WS := (descG d).foldl (putW lim) s
def RwEnd (w : World) (base g : Nat) (r : Option Nat) (lim : Nat) (s' : WS) (e : Ending) (w' : World) : Prop :=
  e = .returned (.tuple #[]) ∧ ∃ r', RwB w' base g r' lim s' ∧ Chg (fp g r) w w' ∧ Moved w.heap.size r r'
/-- a writer at work beside a block that stays -/
structure WrtS (w : World) (base g lim D : Nat) (t : TypeId) (cd : Array Value) (s : WS) (r0 r : Option Nat) (W : World) : Prop where
  rw : RwB W base g r lim s
  blk : Blk W D t cd
  ne : D ∉ fp g r
  chg : Chg (fp g r0) w W
  mov : Moved w.heap.size r0 r
theorem WrtS.step {w W W' : World} {base g lim D : Nat} {t : TypeId} {cd : Array Value} {s s' : WS} {r0 r r' : Option Nat} (h : WrtS w base g lim D t cd s r0 r W) (h' : RwB W' base g r' lim s') (hc : Chg (fp g r) W W') (hm : Moved W.heap.size r r') : WrtS w base g lim D t cd s' r0 r' W' :=
  ⟨h', h.blk.chg hc h.ne, fun hm' => by
    rw [mem_fp] at hm'
    rcases hm' with e | e
    · exact h.ne (by rw [mem_fp]; exact .inl e)
    · rcases hm with e2 | ⟨x, e2, hx⟩
      · exact h.ne (by rw [mem_fp]; exact .inr (e2 ▸ e))
      · rw [e2] at e; injection e with e; have := h.blk.lt; omega, h.chg.trans hc (fun b hb => by
    rw [mem_fp] at hb ⊢
    rcases hb with e | e
    · exact .inl (.inl e)
    · rcases h.mov with e2 | ⟨x, e2, hx⟩
      · exact .inl (.inr (e2 ▸ e))
      · rw [e2] at e; injection e with e; exact .inr (by omega)), h.mov.trans hm h.chg.size⟩
set_option maxRecDepth 20000 in
set_option maxHeartbeats 1000000 in
theorem refWrites_calls (base g : Nat) (r : Option Nat) (lim : Nat) (s : WS) (d : DD) (w : World) (h : RwB w base g r lim s) (hd : DOK d) (hpl : d.p.length ≤ 100000) :
    Calls Try.prog 40 #[.pointer (some ⟨g, 0, none⟩), .agg (dcs d).toArray] w (RwEnd w base g r lim (descW lim s d)) := by
  obtain ⟨h32, hm, hs, -⟩ := hd
  have hp := hpl
  clear hpl
  have hW : descW lim s d = putW lim (putW lim (putW lim (putW lim s [numI d.m]) [some d.id]) [numI d.s]) [numI d.p.length, some d.p] := rfl
  generalize descW lim s d = S at hW ⊢
  have hb := below_new w (.cells (dcs d).toArray 25)
  have hk := Blk.new w 25 (dcs d).toArray
  have hfl := h.fp_lt
  have H1 := hid (show WrtS w base g lim w.heap.size 25 (dcs d).toArray s r r (w.alloc (.cells (dcs d).toArray 25)) from ⟨h.keep hb, hk, fun hm => by have := (hfl _ hm).2; omega, Chg.of_below hb, Moved.refl _ _⟩)
  have HC := hid (fun W (hk : Blk W w.heap.size 25 (dcs d).toArray) => (⟨hk.cell 0 (by rw [List.getElem?_toArray]; exact dcs_0 d), hk.cell 33 (by rw [List.getElem?_toArray]; exact dcs_33 h32), hk.cell 34 (by rw [List.getElem?_toArray]; exact dcs_34 h32), by rw [dcs_part] at hk; exact part_load hk (P := Try.prog) 23 (off := 1) rfl Try.underlying23 rfl (size_idl h32)⟩ : W.cell? ⟨w.heap.size, 0, none⟩ = some (.int .i64 d.m) ∧ W.cell? ⟨w.heap.size, 33, none⟩ = some (.int .i64 d.s) ∧ W.cell? ⟨w.heap.size, 34, none⟩ = some (.string (strB d.p)) ∧ (loadVar 23 ⟨w.heap.size, 1, none⟩).run Try.prog W = .ok (.agg (d.id.map bv).toArray) W))
  clear hb hk h hfl
  generalize (dcs d).toArray = cd at H1 HC ⊢
  obtain ⟨m, id, sz, p⟩ := d
  dsimp only at *
  unfold lt63 at hm hs
  have HM := hid hm; have HS := hid hs; have HP := hid hp; have H32 := hid h32
  clear hm hs hp h32
  generalize hw1 : w.alloc (.cells cd 25) = w1 at H1
  have d0 := (HC.out w1 H1.out.blk).1
  go_enter Try.func40, Try.ntmps40
  go_wp2_with fail
  refine (refWNum_calls base g r lim s w1 m HM.out H1.out.rw).mono ?_
  rintro _ w2 ⟨rfl, r2, k1, k2, k3⟩
  have H2 := hid (H1.out.step k1 k2 k3)
  clear k1 k2 k3 H1 d0 hw1
  have HL := hid (HC.out w2 H2.out.blk).2.2.2
  go_wp2_with (first | (refine wpList_load_run rfl 23 _ rfl _ _ rfl HL.out ?_))
  refine (refWID_calls base g r2 lim _ w2 id H32.out H2.out.rw).mono ?_
  rintro _ w3 ⟨rfl, r3, k1, k2, k3⟩
  have H3 := hid (H2.out.step k1 k2 k3)
  clear k1 k2 k3 H2 HL
  have d33 := (HC.out w3 H3.out.blk).2.1
  go_wp2_with fail
  refine (refWNum_calls base g r3 lim _ w3 sz HS.out H3.out.rw).mono ?_
  rintro _ w4 ⟨rfl, r4, k1, k2, k3⟩
  have H4 := hid (H3.out.step k1 k2 k3)
  clear k1 k2 k3 H3 d33
  have d34 := (HC.out w4 H4.out.blk).2.2.1
  go_wp2_with fail
  refine (refWText_calls base g r4 lim _ w4 p (by have := HP.out; omega) H4.out.rw).mono ?_
  rintro _ w5 ⟨rfl, r5, k1, k2, k3⟩
  have H5 := hid (H4.out.step k1 k2 k3)
  clear k1 k2 k3 H4 d34
  go_wp2_with fail
  go_end0
  exact ⟨rfl, r5, by rw [hW]; exact H5.out.rw, H5.out.chg, H5.out.mov⟩
theorem does_append_descs {w : World} {o : Oper} {a : Act} {T : Value → World → Prop} (s x : Operand) (ho : o.op = .call { callee := .builtin .append, args := #[s, x], argTypes := #[26, 26] }) {base : Nat} (v : Value) (hv : a.eval s = v) {ls : List DD} (hown : OwnD w base v ls) {B : Nat} (m c : Nat) (A : Option Addr) (hx : a.eval x = .slice A m c) {ds : List DD} (hs : SDs w B A m ds) (hlen : ls.length + m ≤ 1000000) (hbase : base ≤ w.heap.size)
    (h : ∀ v' w', OwnD w' base v' (ls ++ ds) → Below base w w' → T v' w') : OpDoes Try.prog o a w T := fun K Q hK => by
  obtain ⟨v', w', hr, h2, h3, -⟩ := run_append_descs o.type (c := c) hown hs hlen hbase
  unfold Oper.wp execOp
  simp only [ho, resolve, invoke, builtin, Sem.run_bind, Sem.run_pure, Result.andThen_ok, List.map_toArray, List.map_cons, List.map_nil, hv, hx, hr]
  exact hK _ _ (h v' w' h2 (below_of_grown h3 hbase (fun g e => (World.ownsRow.lt hown g e).1)))
/-- two appends in a drawn region -/
structure RdS (w1 : World) (b1 : Nat) (ls l u : List DD) (v0 : Value) (f : Nat → Bool) (gh : Nat → Value) (W : World) : Prop where
  hb : b1 = w1.heap.size
  bel : Below b1 w1 W
  o0 : f 3 = false → OwnD W b1 v0 ls
  o3 : f 3 = true → f 6 = false → OwnD W b1 (gh 3) (ls ++ l)
  o6 : f 6 = true → f 7 = false → OwnD W b1 (gh 6) (ls ++ l ++ u)
  o7 : f 7 = true → OwnD W b1 (gh 7) (ls ++ l ++ u)
theorem RdS.step {w1 W : World} {b1 : Nat} {ls l u : List DD} {v0 : Value} {f : Nat → Bool} {gh : Nat → Value} (h : RdS w1 b1 ls l u v0 f gh W) (i : Nat) (k : Value) (h3 : 3 ≠ i) (h6 : 6 ≠ i) (h7 : 7 ≠ i) : RdS w1 b1 ls l u v0 (upd f i) (updN gh i k) W :=
  ⟨h.hb, h.bel, by rw [ap_ne h3]; exact h.o0, by rw [ap_ne h3, ap_ne h6, apN_ne h3]; exact h.o3, by rw [ap_ne h6, ap_ne h7, apN_ne h6]; exact h.o6, by rw [ap_ne h7, apN_ne h7]; exact h.o7⟩
theorem RdS.s3 {w1 W W' : World} {b1 : Nat} {ls l u : List DD} {v0 v' : Value} {f : Nat → Bool} {gh : Nat → Value} (h : RdS w1 b1 ls l u v0 f gh W) (h6 : f 6 = false) (h7 : f 7 = false) (ho : OwnD W' b1 v' (ls ++ l)) (hb : Below b1 W W') : RdS w1 b1 ls l u v0 (upd f 3) (updN gh 3 v') W' :=
  ⟨h.hb, h.bel.trans hb, (fun e => by rw [ap_eq] at e; cases e), fun _ _ => by rw [apN_eq]; exact ho, (fun e => by rw [ap_ne (by decide), h6] at e; cases e), (fun e => by rw [ap_ne (by decide), h7] at e; cases e)⟩
theorem RdS.s6 {w1 W W' : World} {b1 : Nat} {ls l u : List DD} {v0 v' : Value} {f : Nat → Bool} {gh : Nat → Value} (h : RdS w1 b1 ls l u v0 f gh W) (h3 : f 3 = true) (h7 : f 7 = false) (ho : OwnD W' b1 v' (ls ++ l ++ u)) (hb : Below b1 W W') : RdS w1 b1 ls l u v0 (upd f 6) (updN gh 6 v') W' :=
  ⟨h.hb, h.bel.trans hb, (fun e => by rw [ap_ne (by decide), h3] at e; cases e), (fun _ e => by rw [ap_eq] at e; cases e), fun _ _ => by rw [apN_eq]; exact ho, (fun e => by rw [ap_ne (by decide), h7] at e; cases e)⟩
theorem RdS.s7 {w1 W : World} {b1 : Nat} {ls l u : List DD} {v0 : Value} {f : Nat → Bool} {gh : Nat → Value} (h : RdS w1 b1 ls l u v0 f gh W) (h6 : f 6 = true) (h7 : f 7 = false) : RdS w1 b1 ls l u v0 (upd f 7) (updN gh 7 (gh 6)) W :=
  ⟨h.hb, h.bel, fun e => by rw [ap_ne (by decide)] at e; exact h.o0 e, (fun _ e => by rw [ap_ne (by decide), h6] at e; cases e), (fun _ e => by rw [ap_eq] at e; cases e), fun _ => by rw [apN_eq]; exact h.o6 h6 h7⟩
def rdVal (b : Nat) (A : Option Addr) (n : Nat) (c : Nat) (A2 : Option Addr) (n2 : Nat) (c2 : Nat) (sv : Value) : Nat → Value → Value
  | 0, _ => sv
  | 1, _ => .pointer (some ⟨b, 37, none⟩)
  | 2, _ => .slice A n c
  | 3, k => k
  | 4, _ => .pointer (some ⟨b, 38, none⟩)
  | 5, _ => .slice A2 n2 c2
  | 6, k => k
  | 7, k => k
  | _, _ => undef
set_option maxRecDepth 20000 in
set_option maxHeartbeats 2000000 in
theorem refDescs_calls (B : Nat) (m : MM) (v1 v2 : Value) (w : World) (hi : MIn w B m v1 v2) (_hB : B ≤ w.heap.size) (hl1 : m.l.length ≤ 100000) (hl2 : m.u.length ≤ 100000) :
    Calls Try.prog 16 #[.agg (mcs m v1 v2).toArray] w fun e w' => ∃ v, e = .returned v ∧ OwnD w' w.heap.size v (descsL m) ∧ Below w.heap.size w w' := by
  have hb := below_new w (.cells (mcs m v1 v2).toArray 28)
  have hk := Blk.new w 28 (mcs m v1 v2).toArray
  have hsz := size_new w (.cells (mcs m v1 v2).toArray 28)
  have h32 := hi.1
  obtain ⟨-, A, c, A2, c2, e1, e2, hs1, hs2, -, -⟩ := hi.keep hb
  have d0 := hk.cell 0 (by rw [List.getElem?_toArray]; exact mcs_0 m v1 v2)
  have HRUN := hid (show (loadVar 25 ⟨w.heap.size, 2, none⟩).run Try.prog (w.alloc (.cells (mcs m v1 v2).toArray 28)) = .ok (.agg (dcs m.c).toArray) (w.alloc (.cells (mcs m v1 v2).toArray 28)) from by
    have hk2 := hk
    rw [mcs_part] at hk2
    have := part_load hk2 (P := Try.prog) 25 (off := 2) rfl Try.underlying25 rfl (size_desc h32)
    rw [← mcs_part] at this
    exact this)
  have HBS := hid (fun W => run_bs1 (dcs m.c) (dcs_length h32) W)
  have HC := hid (fun W (hW : Below (w.alloc (.cells (mcs m v1 v2).toArray 28)).heap.size (w.alloc (.cells (mcs m v1 v2).toArray 28)) W) => (⟨(hk.keep hW).cell 37 (by rw [List.getElem?_toArray, ← e1]; exact mcs_37 h32 v1 v2), (hk.keep hW).cell 38 (by rw [List.getElem?_toArray, ← e2]; exact mcs_38 h32 v1 v2), hs1.keep hW, hs2.keep hW⟩ : W.cell? ⟨w.heap.size, 37, none⟩ = some (.slice A m.l.length c) ∧ W.cell? ⟨w.heap.size, 38, none⟩ = some (.slice A2 m.u.length c2) ∧ SDs W B A m.l.length m.l ∧ SDs W B A2 m.u.length m.u))
  have HB := hid hb
  have HLL := hid (show m.l.length ≤ 100000 ∧ m.u.length ≤ 100000 from ⟨hl1, hl2⟩)
  have H32 := hid h32
  clear hb hk hi hs1 hs2 e1 e2 hl1 hl2 h32
  generalize (mcs m v1 v2).toArray = cm at d0 HRUN HC HB hsz ⊢
  generalize hw1 : w.alloc (.cells cm 28) = w1 at d0 HRUN HC HB hsz
  have HSZ := hid hsz
  clear hsz
  generalize hn : m.l.length = n at HC HLL
  generalize hn2 : m.u.length = n2 at HC HLL
  have HN := hid (show m.l.length = n ∧ m.u.length = n2 from ⟨hn, hn2⟩)
  clear hn hn2
  obtain ⟨b1, hb1⟩ : ∃ b1, b1 = w1.heap.size := ⟨_, rfl⟩
  have HB1 := hid hb1
  rw [← hb1] at HC
  clear hb1
  by_cases h3 : m.k = 3
  · have HD := hid (show descsL m = ([m.c] ++ m.l) ++ m.u from by
      have : descsL m = m.c :: (m.l ++ m.u) := if_pos h3
      rw [this]; simp)
    rw [h3] at d0
    generalize descsL m = DL at HD ⊢
    generalize hdl : dcs m.c = dl at HRUN HBS
    have HDD := hid hdl
    clear hdl
    go_enter Try.func16, Try.ntmps16
    go_wp2_with (first | (refine wpList_load_run rfl 25 _ rfl _ _ rfl HRUN.out ?_; refine wpList_bs1 rfl 26 (.tmp 9) rfl (.agg dl.toArray) (.slice (some ⟨w1.heap.size, 0, none⟩) 1 1) rfl (HBS.out w1) ?_; refine Held.go ?_))
    have hbb := below_new w1 (.cells dl.toArray 25)
    have hkk := Blk.new w1 25 dl.toArray
    have HSS := hid (show SDs (w1.alloc (.cells dl.toArray 25)) (w1.heap.size + 1) (some ⟨w1.heap.size, 0, none⟩) 1 [m.c] from ⟨rfl, fun d hd => by simp at hd; subst hd; exact H32.out, fun _ => ⟨w1.heap.size, 0, rfl, by omega, fun j d hj i v hi => by
      cases j with
      | zero =>
        simp at hj; subst hj
        rw [HDD.out] at hi
        rw [show 0 + 0 * 35 + i = i by omega]
        exact hkk.cell i (by rw [List.getElem?_toArray]; exact hi)
      | succ j => simp at hj⟩⟩)
    have HB2 := hid hbb
    clear hbb hkk
    generalize w1.alloc (.cells dl.toArray 25) = w2 at HSS HB2 ⊢
    refine wpList_append_descs rfl _ _ rfl (.slice none 0 0) rfl (OwnD.nil w2 b1) 1 1 _ rfl HSS.out (by simp) (by rw [HB1.out]; exact HB2.out.size) ?_
    intro sv w3 o3 g3
    have HOS := hid (show OwnD w3 b1 sv [m.c] from o3)
    have HW3 := hid (show Below b1 w1 w3 from by
      have hx := HB2.out
      rw [← HB1.out] at hx
      exact hx.trans (below_of_grown g3 (by have := hx.size; have := HB1.out; omega) (fun g e => by simp [Value.ownBlock] at e)))
    clear o3 g3 HSS HB2 HRUN HBS hw1
    clear d0
    generalize hbq : w.heap.size = b at HC HSZ HB ⊢
    have HBQ := hid hbq
    clear hbq
    have HST := hid (show RdS w1 b1 [m.c] m.l m.u sv (fun j => decide (8 ≤ j)) (fun _ => .pointer none) w3.drew from ⟨HB1.out, HW3.out.drew, fun _ => HOS.out, (fun e => by cases e), (fun e => by cases e), (fun e => by cases e)⟩)
    clear HW3
    go_wp2_with fail
    refine wp_region_invG 19 (.pointer none) (rdVal b A n c A2 n2 c2 sv) (RdS w1 b1 [m.c] m.l m.u sv) (by kernel_rfl) (by kernel_rfl) (by exact Nat.le_refl 19) ?_ ?_ ?_
    · exact HST.out
    · intro i o f gh a W hi hf hdep hsame hcl hval hS
      rcases i with _ | _ | _ | _ | _ | _ | _ | _ | i
      all_goals simp only [List.getElem?_cons_succ, List.getElem?_cons_zero, List.getElem?_nil, Option.some.injEq, reduceCtorEq] at hi
      all_goals subst hi
      · have E3 : a.tmps[3]? = some (sv) := (same_of hsame 3 (by rfl)).trans rfl
        refine g_plain rfl ?_
        exact does_value (w' := W) (v := sv) (by go_simp) ⟨(.pointer none), .inr rfl, hS.step 0 (.pointer none) (by decide) (by decide) (by decide)⟩
      · have E1 : a.tmps[1]? = some (.pointer (some ⟨b, 0, none⟩)) := (same_of hsame 1 (by rfl)).trans rfl
        refine g_plain rfl ?_
        exact does_value (w' := W) (v := .pointer (some ⟨b, 37, none⟩)) (by go_simp) ⟨(.pointer none), .inr rfl, hS.step 1 (.pointer none) (by decide) (by decide) (by decide)⟩
      · have E13 := hval 1 _ 13 rfl rfl (dep_of hdep 1 (by rfl))
        unfold rdVal at E13
        obtain ⟨c0, c1, -, -⟩ := HC.out W hS.bel
        refine g_plain rfl ?_
        exact does_value (w' := W) (v := .slice A n c) (by go_simp) ⟨(.pointer none), .inr rfl, hS.step 2 (.pointer none) (by decide) (by decide) (by decide)⟩
      · have E12 := hval 0 _ 12 rfl rfl (dep_of hdep 0 (by rfl))
        have E14 := hval 2 _ 14 rfl rfl (dep_of hdep 2 (by rfl))
        unfold rdVal at E12 E14
        have n6 := not_yet hcl hf 6 (by rfl)
        have n7 := not_yet hcl n6 7 (by rfl)
        refine g_plain rfl ?_
        have hx := HC.out W hS.bel
        refine does_append_descs _ _ rfl (base := b1) (B := B) (sv) (by rw [eval_getD, E12]; rfl) (hS.o0 hf) n c A (by rw [eval_getD, E14]; rfl) (hx.2.2.1) ?_ (by rw [hS.hb]; exact hS.bel.size) ?_
        · have := HLL.out; have := HN.out; simp; omega
        · intro v' W' ho hb
          exact ⟨v', .inr rfl, hS.s3 n6 n7 ho hb⟩
      · have E1 : a.tmps[1]? = some (.pointer (some ⟨b, 0, none⟩)) := (same_of hsame 1 (by rfl)).trans rfl
        refine g_plain rfl ?_
        exact does_value (w' := W) (v := .pointer (some ⟨b, 38, none⟩)) (by go_simp) ⟨(.pointer none), .inr rfl, hS.step 4 (.pointer none) (by decide) (by decide) (by decide)⟩
      · have E16 := hval 4 _ 16 rfl rfl (dep_of hdep 4 (by rfl))
        unfold rdVal at E16
        obtain ⟨c0, c1, -, -⟩ := HC.out W hS.bel
        refine g_plain rfl ?_
        exact does_value (w' := W) (v := .slice A2 n2 c2) (by go_simp) ⟨(.pointer none), .inr rfl, hS.step 5 (.pointer none) (by decide) (by decide) (by decide)⟩
      · have E15 := hval 3 _ 15 rfl rfl (dep_of hdep 3 (by rfl))
        have E17 := hval 5 _ 17 rfl rfl (dep_of hdep 5 (by rfl))
        unfold rdVal at E15 E17
        have n7 := not_yet hcl hf 7 (by rfl)
        refine g_plain rfl ?_
        have hx := HC.out W hS.bel
        refine does_append_descs _ _ rfl (base := b1) (B := B) (gh 3) (by rw [eval_getD, E15]; rfl) (hS.o3 (dep_of hdep 3 (by rfl)) hf) n2 c2 A2 (by rw [eval_getD, E17]; rfl) (hx.2.2.2) ?_ (by rw [hS.hb]; exact hS.bel.size) ?_
        · have := HLL.out; have := HN.out; simp; omega
        · intro v' W' ho hb
          exact ⟨v', .inr rfl, hS.s6 (dep_of hdep 3 (by rfl)) n7 ho hb⟩
      · have E18 := hval 6 _ 18 rfl rfl (dep_of hdep 6 (by rfl))
        unfold rdVal at E18
        refine g_plain rfl ?_
        exact does_value (w' := W) (v := gh 6) (by go_simp) ⟨gh 6, .inr rfl, hS.s7 (dep_of hdep 6 (by rfl)) hf⟩
    · intro gh W hS
      have HO := hid (hS.o7 rfl)
      have HB9 := hid hS.bel
      clear hS
      simp only [putAll, rdVal, Nat.reduceAdd, Nat.zero_add, Act.put, List.setIfInBounds_toArray, List.set_cons_zero, List.set_cons_succ]
      generalize gh 7 = v9 at HO ⊢
      go_wp2_with fail
      go_ret
      obtain rfl := HBQ.out
      exact ⟨_, rfl, by rw [HD.out]; exact HO.out.lower (by have := HSZ.out; have := HB1.out; omega), HB.out.trans (HB9.out.mono (by have := HB.out.size; have := HB1.out; omega))⟩
  · have HD := hid (show descsL m = ([] ++ m.l) ++ m.u from by
      have : descsL m = m.l ++ m.u := if_neg h3
      rw [this]; simp)
    generalize descsL m = DL at HD ⊢
    have HOS := hid (OwnD.nil w1 b1)
    have HW3 := hid (Below.refl b1 w1)
    clear HRUN HBS
    go_enter Try.func16, Try.ntmps16
    go_wp2_with fail
    clear d0 hw1
    generalize hsv : Value.slice none 0 0 = sv at HOS ⊢
    clear hsv
    generalize hbq : w.heap.size = b at HC HSZ HB ⊢
    have HBQ := hid hbq
    clear hbq
    have HST := hid (show RdS w1 b1 [] m.l m.u sv (fun j => decide (8 ≤ j)) (fun _ => .pointer none) w1.drew from ⟨HB1.out, HW3.out.drew, fun _ => HOS.out, (fun e => by cases e), (fun e => by cases e), (fun e => by cases e)⟩)
    clear HW3
    refine wp_region_invG 19 (.pointer none) (rdVal b A n c A2 n2 c2 sv) (RdS w1 b1 [] m.l m.u sv) (by kernel_rfl) (by kernel_rfl) (by exact Nat.le_refl 19) ?_ ?_ ?_
    · exact HST.out
    · intro i o f gh a W hi hf hdep hsame hcl hval hS
      rcases i with _ | _ | _ | _ | _ | _ | _ | _ | i
      all_goals simp only [List.getElem?_cons_succ, List.getElem?_cons_zero, List.getElem?_nil, Option.some.injEq, reduceCtorEq] at hi
      all_goals subst hi
      · have E3 : a.tmps[3]? = some (sv) := (same_of hsame 3 (by rfl)).trans rfl
        refine g_plain rfl ?_
        exact does_value (w' := W) (v := sv) (by go_simp) ⟨(.pointer none), .inr rfl, hS.step 0 (.pointer none) (by decide) (by decide) (by decide)⟩
      · have E1 : a.tmps[1]? = some (.pointer (some ⟨b, 0, none⟩)) := (same_of hsame 1 (by rfl)).trans rfl
        refine g_plain rfl ?_
        exact does_value (w' := W) (v := .pointer (some ⟨b, 37, none⟩)) (by go_simp) ⟨(.pointer none), .inr rfl, hS.step 1 (.pointer none) (by decide) (by decide) (by decide)⟩
      · have E13 := hval 1 _ 13 rfl rfl (dep_of hdep 1 (by rfl))
        unfold rdVal at E13
        obtain ⟨c0, c1, -, -⟩ := HC.out W hS.bel
        refine g_plain rfl ?_
        exact does_value (w' := W) (v := .slice A n c) (by go_simp) ⟨(.pointer none), .inr rfl, hS.step 2 (.pointer none) (by decide) (by decide) (by decide)⟩
      · have E12 := hval 0 _ 12 rfl rfl (dep_of hdep 0 (by rfl))
        have E14 := hval 2 _ 14 rfl rfl (dep_of hdep 2 (by rfl))
        unfold rdVal at E12 E14
        have n6 := not_yet hcl hf 6 (by rfl)
        have n7 := not_yet hcl n6 7 (by rfl)
        refine g_plain rfl ?_
        have hx := HC.out W hS.bel
        refine does_append_descs _ _ rfl (base := b1) (B := B) (sv) (by rw [eval_getD, E12]; rfl) (hS.o0 hf) n c A (by rw [eval_getD, E14]; rfl) (hx.2.2.1) ?_ (by rw [hS.hb]; exact hS.bel.size) ?_
        · have := HLL.out; have := HN.out; simp; omega
        · intro v' W' ho hb
          exact ⟨v', .inr rfl, hS.s3 n6 n7 ho hb⟩
      · have E1 : a.tmps[1]? = some (.pointer (some ⟨b, 0, none⟩)) := (same_of hsame 1 (by rfl)).trans rfl
        refine g_plain rfl ?_
        exact does_value (w' := W) (v := .pointer (some ⟨b, 38, none⟩)) (by go_simp) ⟨(.pointer none), .inr rfl, hS.step 4 (.pointer none) (by decide) (by decide) (by decide)⟩
      · have E16 := hval 4 _ 16 rfl rfl (dep_of hdep 4 (by rfl))
        unfold rdVal at E16
        obtain ⟨c0, c1, -, -⟩ := HC.out W hS.bel
        refine g_plain rfl ?_
        exact does_value (w' := W) (v := .slice A2 n2 c2) (by go_simp) ⟨(.pointer none), .inr rfl, hS.step 5 (.pointer none) (by decide) (by decide) (by decide)⟩
      · have E15 := hval 3 _ 15 rfl rfl (dep_of hdep 3 (by rfl))
        have E17 := hval 5 _ 17 rfl rfl (dep_of hdep 5 (by rfl))
        unfold rdVal at E15 E17
        have n7 := not_yet hcl hf 7 (by rfl)
        refine g_plain rfl ?_
        have hx := HC.out W hS.bel
        refine does_append_descs _ _ rfl (base := b1) (B := B) (gh 3) (by rw [eval_getD, E15]; rfl) (hS.o3 (dep_of hdep 3 (by rfl)) hf) n2 c2 A2 (by rw [eval_getD, E17]; rfl) (hx.2.2.2) ?_ (by rw [hS.hb]; exact hS.bel.size) ?_
        · have := HLL.out; have := HN.out; simp; omega
        · intro v' W' ho hb
          exact ⟨v', .inr rfl, hS.s6 (dep_of hdep 3 (by rfl)) n7 ho hb⟩
      · have E18 := hval 6 _ 18 rfl rfl (dep_of hdep 6 (by rfl))
        unfold rdVal at E18
        refine g_plain rfl ?_
        exact does_value (w' := W) (v := gh 6) (by go_simp) ⟨gh 6, .inr rfl, hS.s7 (dep_of hdep 6 (by rfl)) hf⟩
    · intro gh W hS
      have HO := hid (hS.o7 rfl)
      have HB9 := hid hS.bel
      clear hS
      simp only [putAll, rdVal, Nat.reduceAdd, Nat.zero_add, Act.put, List.setIfInBounds_toArray, List.set_cons_zero, List.set_cons_succ]
      generalize gh 7 = v9 at HO ⊢
      go_wp2_with fail
      go_ret
      obtain rfl := HBQ.out
      exact ⟨_, rfl, by rw [HD.out]; exact HO.out.lower (by have := HSZ.out; have := HB1.out; omega), HB.out.trans (HB9.out.mono (by have := HB.out.size; have := HB1.out; omega))⟩
end Go.Proofs.Ytfmbnlnnfoonjaa
