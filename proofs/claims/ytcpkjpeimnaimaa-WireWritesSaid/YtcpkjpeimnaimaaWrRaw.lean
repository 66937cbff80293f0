/- Contracts: raw of bytes and of a text, truth, err. -/
import Derived.Lib.AppendStr
import Derived.Test.YtcpkjpeimnaimaaWrDraft
namespace Go.Proofs.Ytcpkjpeimnaimaa
open Go.RowKit

theorem strCells_strB (cs : List UInt8) : Lib.strCells (strB cs) = cs.map bv := rfl
theorem strB_size (cs : List UInt8) : (strB cs).size = cs.length := rfl
theorem run_append_text {P : Program} (w : World) (base : Nat) (t u ty e : TypeId) (ht : P.underlying t = some (.slice e)) (hu : P.underlying u = some .string) (he : (P.info? e).map (fun i => (i.zero, i.size, i.bytes)) = some (some (.int .u8 0), 1, 1))
    (v : Value) (n : Nat) (bs : List UInt8) (hown : Own w base e v n bs) (cs : List UInt8) (hlen : n + cs.length ≤ 1099511627776) (hbase : base ≤ w.heap.size) :
    ∃ v' w', (Builtin.append_ #[t, u] ty #[v, .string (strB cs)]).run P w = .ok v' w' ∧ Own w' base e v' (n + cs.length) (bs ++ cs) ∧ w.grownBy w' v.ownBlock ∧ Moved w.heap.size v.ownBlock v'.ownBlock := by
  obtain ⟨i, hi, hz, hsz, hby⟩ := info_parts he
  obtain ⟨v', w', hr, h2, h3, h4⟩ := Lib.run_append_own_string (P := P) w base t u ty e i ht hu hi hz hsz hby v n _ hown (strB cs) (by simp [maxLen, strB_size]; omega) (by rw [strB_size]; omega) hbase
  rw [strB_size, strCells_strB, ← List.map_append] at h2
  refine ⟨v', w', hr, h2, h3, ?_⟩
  have hxl := hown.len
  rcases hown.2 with ⟨rfl, rfl⟩ | ⟨g, cap, cur, rfl, hbg, hg, hnc, hcm, hcs, htake⟩
  · obtain ⟨v2, w2, hr2, h5, h6, h7⟩ := Lib.run_append_own_string (P := P) w w.heap.size t u ty e i ht hu hi hz hsz hby (.slice none 0 0) 0 [] (World.ownsRow_nil w _ e 1) (strB cs) (by simp [maxLen, strB_size]; omega) (by rw [strB_size]; omega) (Nat.le_refl _)
    rw [hr] at hr2
    injection hr2 with e1 e2
    subst e1 e2
    rcases hv : v'.ownBlock with _ | g
    · exact .inl rfl
    · exact .inr ⟨g, rfl, (World.ownsRow.lt h5 g hv).1⟩
  · have hs : (strB cs).size = cs.length := rfl
    by_cases hroom : n + (strB cs).size ≤ cap
    · have hr2 := Lib.run_append_room_string (P := P) w t u ty e i ht hu hi hsz g n cap cur hg (strB cs) hroom (by simp at hcs; omega)
      rw [hr] at hr2
      injection hr2 with e1 e2
      rw [e1]
      exact .inl rfl
    · have holds : ∀ j u, (bs.map bv)[j]? = some u → w.cell? ((⟨g, 0, none⟩ : Addr).add j) = some u := World.ownsRow.cells hown (g := g) rfl
      have hr2 := Lib.run_append_grow_string (P := P) w t u ty e i (.int .u8 0) ht hu hi hz ⟨g, 0, none⟩ n cap (bs.map bv) (by rw [hsz, List.length_map, hxl, Nat.mul_one]) holds (strB cs) (by omega) (by omega) (by rw [hby]; exact growslice_fits (by omega) (by omega))
      rw [hr] at hr2
      injection hr2 with e1 e2
      rw [e1]
      exact .inr ⟨_, rfl, Nat.le_refl _⟩
theorem wpList_append_text {P : Program} {w : World} {ops : Array Oper} {rest : List Oper} {o : Oper} {a : Act} {Q : Exit → Act → World → Prop} (hgd : o.guard = none) (sl x : Operand) (t u : TypeId)
    (ho : o.op = .call { callee := .builtin .append, args := #[sl, x], argTypes := #[t, u] })
    (e : TypeId) (ht : P.underlying t = some (.slice e)) (hu : P.underlying u = some .string) (he : (P.info? e).map (fun i => (i.zero, i.size, i.bytes)) = some (some (.int .u8 0), 1, 1)) (base : Nat)
    (v : Value) (n : Nat) (bs : List UInt8) (hs : a.eval sl = v) (hown : Own w base e v n bs) (cs : List UInt8) (hx : a.eval x = .string (strB cs)) (hlen : n + cs.length ≤ 1099511627776) (hbase : base ≤ w.heap.size)
    (h : ∀ v' w', Own w' base e v' (n + cs.length) (bs ++ cs) → w.grownBy w' v.ownBlock → Moved w.heap.size v.ownBlock v'.ownBlock → wpList P ops Q rest (a.put o.dst v') w') : wpList P ops Q (o :: rest) a w := by
  refine wpList_plain hgd fun K hK => ?_
  obtain ⟨v', w', hr, h2, h3, h4⟩ := run_append_text (P := P) w base t u o.type e ht hu he v n bs hown cs hlen hbase
  unfold Oper.wp execOp
  simp only [ho, resolve, invoke, builtin, Sem.run_bind, Sem.run_pure, Result.andThen_ok, List.map_toArray, List.map_cons, List.map_nil, hs, hx, hr]
  exact hK _ _ (h v' w' h2 h3 h4)

/-- the end of an operation that put bytes into a draft -/
theorem put_end {w w1 w2 : World} {base d : Nat} {r : Option Nat} {lim : Nat} {s : DS} {cs : List UInt8} {v v2 : Value} (hq : (fitsM lim s cs.length).lng = false)
    (hb2 : Blk w2 d 95 #[v, .int .i64 (lim : Int), .bool (fitsM lim s cs.length).neg, .bool (fitsM lim s cs.length).lng]) (k1 : Chg [d] w w1) (hd : d < w1.heap.size)
    (o2 : Own w2 base 5 v2 (s.bs.length + cs.length) (s.bs ++ cs)) (g2 : w1.grownBy w2 r) (m2 : Moved w1.heap.size r v2.ownBlock) (hne : r ≠ some d) (hlim : lim ≤ 67108864) (hbd : base ≤ d) :
    DrPost w base d r lim (putM lim s cs) (.returned (.tuple #[])) (w2.setCell ⟨d, 0, none⟩ v2) := by
  have hp : putM lim s cs = { fitsM lim s cs.length with bs := s.bs ++ cs } := by rw [putM, hq]; rfl
  have hfl := fits_len hq
  rw [hp]
  refine ⟨rfl, _, DrB.setB hb2 _ rfl rfl ?_ rfl ?_ ?_ hlim hbd, ?_, ?_⟩
  · show Own w2 base _ _ (s.bs ++ cs).length (s.bs ++ cs)
    rw [List.length_append]; exact o2
  · rcases m2 with m2 | ⟨g, m2, hg⟩
    · rw [m2]; exact hne
    · rw [m2]; intro e; cases e; omega
  · show (s.bs ++ cs).length ≤ lim
    rw [List.length_append]; omega
  · exact (k1.more (fun b hb => .inl (by rw [mem_fp]; simp at hb; exact .inl hb))).trans ((Chg.of_grown (L := fp d r) g2 (fun g e => fp_row e)).trans (chg_set (fp_head d r) 0 _) (fun b hb => .inl hb)) (fun b hb => .inl hb)
  · exact (Moved.refl w.heap.size r).trans m2 k1.size
theorem put_none {w w1 : World} {base d : Nat} {r : Option Nat} {lim : Nat} {s : DS} {cs : List UInt8} (hq : (fitsM lim s cs.length).lng = true) (h1 : DrB w1 base d r lim (fitsM lim s cs.length)) (k1 : Chg [d] w w1) :
    DrPost w base d r lim (putM lim s cs) (.returned (.tuple #[])) w1 := by
  have hp : putM lim s cs = fitsM lim s cs.length := by rw [putM, hq]; rfl
  rw [hp]
  exact ⟨rfl, r, h1, k1.more (fun b hb => .inl (by rw [mem_fp]; simp at hb; exact .inl hb)), Moved.refl _ _⟩

theorem rawText_calls (base d : Nat) (r : Option Nat) (lim : Nat) (s : DS) (cs : List UInt8) (hn : cs.length ≤ 549755813888) (w : World) (h : DrB w base d r lim s) :
    Calls Try.prog 76 #[.pointer (some ⟨d, 0, none⟩), .string (strB cs)] w (DrPost w base d r lim (putM lim s cs)) := by
  have hsz := strB_size cs
  have HH := hid h
  clear h
  generalize hst : strB cs = st at hsz ⊢
  have HST := hid hst
  generalize hp : putM lim s cs = s'
  have HP := hid hp
  clear hst hp
  go_enter Try.func76, Try.ntmps76
  go_wp2_with fail
  refine (fits_calls base d r lim s cs.length w HH.out).mono ?_
  rintro _ w1 ⟨rfl, h1, k1⟩
  cases hq : (fitsM lim s cs.length).lng
  · obtain ⟨v, hb, ho, hr, hne, hl, hlim, hbd⟩ := h1
    obtain ⟨A1, c1, rfl, -, -, -⟩ := ho.sb
    have c0 := hb.cell 0 rfl
    have HO := hid ho; have HB := hid hb; have K1 := hid k1; have HR := hid (show (Value.slice A1 s.bs.length c1).ownBlock = r from hr); have HNE := hid hne; have HQ := hid hq
    have lb := hb.lt
    rw [fits_bs] at HO hl
    clear hb ho k1 hr hne hq HH
    go_wp2_with (at_builtin; refine Held.go ?_)
    refine wpList_append_text rfl _ _ _ _ rfl _ Try.underlying31 Try.underlying9 info5' base (.slice A1 s.bs.length c1) s.bs.length s.bs rfl HO.out cs (by rw [← HST.out]; rfl) (by omega) (by omega) ?_
    intro v2 w2 o2 g2 m2
    obtain ⟨A2, cc2, rfl, -, -, -⟩ := o2.sb
    have hb2 := HB.out.grown g2 (by rw [HR.out]; exact HNE.out)
    have c2 := hb2.cell 0 rfl
    have f2 := hb2.frozen 0
    rw [HR.out] at g2 m2
    have key := put_end HQ.out hb2 K1.out lb o2 g2 m2 HNE.out hlim hbd
    rw [HP.out] at key
    have HK := hid key
    clear hb2 o2 g2 m2 c0 key
    go_wp2_with fail
    go_end0
    exact HK.out
  · have key := put_none hq h1 k1
    rw [HP.out] at key
    have HK := hid key
    clear h1 k1 hq HH key
    go_wp2_with fail
    go_end0
    exact HK.out
theorem rawBytes_calls (base d : Nat) (r : Option Nat) (lim : Nat) (s : DS) (B n c : Nat) (A : Option Addr) (cs : List UInt8) (hn : n ≤ 549755813888) (w : World) (h : DrB w base d r lim s) (hs : SB w B A n cs) (hned : ∀ b off, A = some ⟨b, off, none⟩ → b < B → b ≠ d) :
    Calls Try.prog 77 #[.pointer (some ⟨d, 0, none⟩), .slice A n c] w (DrPost w base d r lim (putM lim s cs)) := by
  have HH := hid h
  obtain rfl := hs.1
  have HS := hid hs; have HND := hid hned
  clear hned
  generalize hp : putM lim s cs = s'
  have HP := hid hp
  clear h hs hp
  go_enter Try.func77, Try.ntmps77
  go_wp2_with fail
  refine (fits_calls base d r lim s cs.length w HH.out).mono ?_
  rintro _ w1 ⟨rfl, h1, k1⟩
  cases hq : (fitsM lim s cs.length).lng
  · obtain ⟨v, hb, ho, hr, hne, hl, hlim, hbd⟩ := h1
    obtain ⟨A1, c1, rfl, -, -, -⟩ := ho.sb
    have c0 := hb.cell 0 rfl
    have HO := hid ho; have HB := hid hb; have K1 := hid k1; have HR := hid (show (Value.slice A1 s.bs.length c1).ownBlock = r from hr); have HNE := hid hne; have HQ := hid hq
    have lb := hb.lt
    have HS1 := hid (HS.out.chg k1 (fun b off e hlt hm => HND.out b off e hlt (by simpa using hm)))
    rw [fits_bs] at HO hl
    clear hb ho k1 hr hne hq HH HS
    go_wp2_with (at_builtin; refine Held.go ?_)
    refine wpList_append_bytes _ rfl _ _ _ rfl _ Try.underlying31 info5' base (.slice A1 s.bs.length c1) s.bs.length s.bs rfl HO.out B A cs.length c cs rfl HS1.out (by omega) (by omega) ?_
    intro v2 w2 o2 g2 m0
    have m2 : Moved w1.heap.size _ v2.ownBlock := m0.elim .inl (fun h => .inr ⟨_, h, Nat.le_refl _⟩)
    obtain ⟨A2, cc2, rfl, -, -, -⟩ := o2.sb
    have hb2 := HB.out.grown g2 (by rw [HR.out]; exact HNE.out)
    have c2 := hb2.cell 0 rfl
    have f2 := hb2.frozen 0
    clear m0
    rw [HR.out] at g2 m2
    have key := put_end HQ.out hb2 K1.out lb o2 g2 m2 HNE.out hlim hbd
    rw [HP.out] at key
    have HK := hid key
    clear hb2 o2 g2 m2 c0 key
    go_wp2_with fail
    go_end0
    exact HK.out
  · have key := put_none hq h1 k1
    rw [HP.out] at key
    have HK := hid key
    clear h1 k1 hq HH key
    go_wp2_with fail
    go_end0
    exact HK.out
theorem truth_calls (base d : Nat) (r : Option Nat) (lim : Nat) (s : DS) (b : Bool) (w : World) (h : DrB w base d r lim s) :
    Calls Try.prog 78 #[.pointer (some ⟨d, 0, none⟩), .bool b] w (DrPost w base d r lim (numM lim s (if b then 1 else 0))) := by
  have HH := hid h
  clear h
  cases b
  · have HN := hid (num_calls base d r lim s 0 (by omega) w HH.out)
    rw [show (if false = true then (1 : Int) else 0) = 0 from rfl]
    generalize numM lim s 0 = s' at HN ⊢
    go_enter Try.func78, Try.ntmps78
    go_wp2_with fail
    refine HN.out.mono ?_
    rintro _ w1 ⟨rfl, h1⟩
    have HK := hid (show DrPost w base d r lim s' (.returned (.tuple #[])) w1 from ⟨rfl, h1⟩)
    clear h1
    go_wp2_with fail
    go_end0
    exact HK.out
  · have HN := hid (num_calls base d r lim s 1 (by omega) w HH.out)
    rw [show (if true = true then (1 : Int) else 0) = 1 from rfl]
    generalize numM lim s 1 = s' at HN ⊢
    go_enter Try.func78, Try.ntmps78
    go_wp2_with fail
    refine HN.out.mono ?_
    rintro _ w1 ⟨rfl, h1⟩
    have HK := hid (show DrPost w base d r lim s' (.returned (.tuple #[])) w1 from ⟨rfl, h1⟩)
    clear h1
    go_wp2_with fail
    go_end0
    exact HK.out
/-- the error of a draft -/
def errM (s : DS) : Nat := if s.neg then 3 else if s.lng then 4 else 0
theorem err_calls (base d : Nat) (r : Option Nat) (lim : Nat) (s : DS) (w : World) (h : DrB w base d r lim s) :
    Calls Try.prog 73 #[.pointer (some ⟨d, 0, none⟩)] w fun e w' => e = .returned (.int .i64 (errM s : Int)) ∧ w = w' := by
  obtain ⟨v, hb, ho, hr, hne, hl, hlim, hbd⟩ := h
  have c2 := hb.cell 2 rfl
  have c3 := hb.cell 3 rfl
  clear hb ho
  cases hN : s.neg <;> cases hL : s.lng <;> rw [hN, hL] at c2 c3 <;> (
    go_enter Try.func73, Try.ntmps73
    go_wp2_with fail
    go_ret
    exact ⟨by unfold errM; rw [hN, hL]; rfl, rfl⟩)
end Go.Proofs.Ytcpkjpeimnaimaa
