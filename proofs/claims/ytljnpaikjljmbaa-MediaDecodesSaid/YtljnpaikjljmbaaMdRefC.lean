/- The document's side of decoding: mathematics. -/
import Derived.Test.YtljnpaikjljmbaaMdDec
import Derived.Test.YtljnpaikjljmbaaMdMath
import Derived.Test.YtljnpaikjljmbaaWrRefRl
import Derived.Test.YtljnpaikjljmbaaMdGrow
namespace Go.Proofs.Ytljnpaikjljmbaa
open Go.RowKit

/-- behind the config: the list -/
def refT (bs : List UInt8) (k most : Nat) (t : List UInt8) (c : DD) (s : RS) : MM × RS × (Nat × Nat) :=
  if most < (numS bs maxI 0 s).1 then (⟨(k : Int), t, c, [], []⟩, (numS bs maxI 0 s).2, (4, bs.length - restS bs s)) else
  (if k = 3 then ⟨(k : Int), t, c, (dscN bs (numS bs maxI 0 s).1 (numS bs maxI 0 s).2).1, []⟩ else ⟨(k : Int), t, c, [], (dscN bs (numS bs maxI 0 s).1 (numS bs maxI 0 s).2).1⟩, (dscN bs (numS bs maxI 0 s).1 (numS bs maxI 0 s).2).2, (0, 0))
/-- behind the kind -/
def refB (bs : List UInt8) (k : Nat) (s : RS) : MM × RS × (Nat × Nat) :=
  if k = 3 then refT bs 3 16 (sizedS bs 4096 s).1 (dscR bs (sizedS bs 4096 s).2).1 (dscR bs (sizedS bs 4096 s).2).2 else refT bs 4 8 (sizedS bs 4096 s).1 zeroD (sizedS bs 4096 s).2
def refK (bs : List UInt8) (q : Nat × RS) : MM × RS × (Nat × Nat) :=
  if q.1 = 3 ∨ q.1 = 4 then refB bs q.1 q.2 else (⟨(q.1 : Int), [], zeroD, [], []⟩, q.2, (20, 0))
def refR (bs : List UInt8) : MM × RS × (Nat × Nat) :=
  if (numS bs maxI 0 (.ok 0)).1 = 77 then refK bs (numS bs maxI 0 (numS bs maxI 0 (.ok 0)).2) else (zeroM, (numS bs maxI 0 (.ok 0)).2, (20, 0))
/-- which fault is told -/
def refF (bs : List UInt8) (s : RS) (rf : Nat × Nat) : Nat × Nat := if ((endS bs s).1 ≠ 0 ∧ restS bs s = 0) ∨ rf.1 = 0 then endS bs s else rf
theorem refF_ok {bs : List UInt8} {a : Nat} {rf : Nat × Nat} (h : rf.1 ≠ 0) : refF bs (.ok a) rf = rf := by
  unfold refF
  refine if_neg ?_
  rintro (⟨h1, h2⟩ | h1)
  · have h3 : bs.length - a = 0 := h2
    have : endS bs (.ok a) = (0, 0) := if_neg (by omega)
    rw [this] at h1
    exact h1 rfl
  · exact h h1
theorem refF_bad {bs : List UInt8} {e p : Nat} {rf : Nat × Nat} (he : e ≠ 0) : refF bs (.bad e p) rf = (e, p) := if_pos (.inl ⟨he, rfl⟩)
theorem refF_zero {bs : List UInt8} {s : RS} {rf : Nat × Nat} (h : rf.1 = 0) : refF bs s rf = endS bs s := if_pos (.inr h)
theorem numS_pos_ok {bs : List UInt8} {most : Int} {above : Nat} {s : RS} (h : (numS bs most above s).1 ≠ 0) : ∃ a, (numS bs most above s).2 = .ok a := by
  cases s with
  | bad e p => exact absurd rfl h
  | ok a =>
    revert h
    show (limS a most above (numS0 bs a)).1 ≠ 0 → ∃ a', (limS a most above (numS0 bs a)).2 = .ok a'
    generalize numS0 bs a = q
    obtain ⟨n, s'⟩ := q
    cases s' with
    | bad e p => intro h; exact absurd rfl h
    | ok a' =>
      intro h
      by_cases hm : most < (n : Int)
      · rw [show limS a most above (n, .ok a') = (0, .bad above a) from if_pos hm] at h; exact absurd rfl h
      · rw [show limS a most above (n, .ok a') = (n, .ok a') from if_neg hm]; exact ⟨a', rfl⟩
theorem refT_lst (bs : List UInt8) (k most : Nat) (t : List UInt8) (c : DD) (s : RS) :
    refT bs k most t c s = (if k = 3 then ⟨(k : Int), t, c, (lstR bs s (0, 0) most).1, []⟩ else ⟨(k : Int), t, c, [], (lstR bs s (0, 0) most).1⟩, (lstR bs s (0, 0) most).2) := by
  unfold refT lstR
  by_cases hm : most < (numS bs maxI 0 s).1
  · rw [if_pos hm, if_pos hm]
    obtain ⟨a, ha⟩ := numS_pos_ok (show (numS bs maxI 0 s).1 ≠ 0 by omega)
    rw [ha, refuse_ok]
    split <;> rfl
  · rw [if_neg hm, if_neg hm]
theorem refB_man (bs : List UInt8) (k : Nat) (s : RS) (hk : k = 3 ∨ k = 4) : refB bs k s = manB bs k s (0, 0) := by
  unfold refB manB
  rcases hk with rfl | rfl
  · rw [if_pos rfl, if_pos rfl, refT_lst]; rfl
  · rw [if_neg (by decide), if_neg (by decide), if_pos rfl, refT_lst]; rfl
theorem srcEnd_own {bs : List UInt8} {s : RS} {rf : Nat × Nat} (h : rf.1 ≠ 0) : srcEnd bs s rf = rf := if_neg h
theorem lstR_rf (bs : List UInt8) (s : RS) (most : Nat) : (lstR bs s (0, 0) most).2.2.1 = 0 ∨ ∃ a, (lstR bs s (0, 0) most).2.1 = .ok a := by
  unfold lstR
  by_cases hm : most < (numS bs maxI 0 s).1
  · rw [if_pos hm]
    obtain ⟨a, ha⟩ := numS_pos_ok (show (numS bs maxI 0 s).1 ≠ 0 by omega)
    exact .inr ⟨a, ha⟩
  · rw [if_neg hm]; exact .inl rfl
theorem manB_rf (bs : List UInt8) (k : Nat) (s : RS) (hk : k = 3 ∨ k = 4) : (manB bs k s (0, 0)).2.2.1 = 0 ∨ ∃ a, (manB bs k s (0, 0)).2.1 = .ok a := by
  unfold manB
  rcases hk with rfl | rfl
  · rw [if_pos rfl]; exact lstR_rf _ _ _
  · rw [if_neg (by decide), if_pos rfl]; exact lstR_rf _ _ _
theorem kept1 (bs : List UInt8) (s : RS) (rf : Nat × Nat) (h : rf.1 ≠ 0) : kind2 bs s rf = rf := by
  unfold kind2; split
  · rfl
  · exact refuse_kept h
theorem keptL (bs : List UInt8) (s : RS) (rf : Nat × Nat) (most : Nat) (h : rf.1 ≠ 0) : (lstR bs s rf most).2.2 = rf := by
  unfold lstR; split
  · exact refuse_kept h
  · rfl
theorem keptB (bs : List UInt8) (k : Nat) (s : RS) (rf : Nat × Nat) (h : rf.1 ≠ 0) : (manB bs k s rf).2.2 = rf := by
  unfold manB; split
  · exact keptL _ _ _ _ h
  · split
    · exact keptL _ _ _ _ h
    · rfl
/-- the same fault is told, and if none is, the same manifest -/
theorem refR_dec (bs : List UInt8) : refF bs (refR bs).2.1 (refR bs).2.2 = srcEnd bs (decR bs).2.1 (decR bs).2.2 ∧ ((srcEnd bs (decR bs).2.1 (decR bs).2.2).1 = 0 → (refR bs).1 = (decR bs).1) := by
  have hg1 : (numS bs maxI 0 (.ok 0)).2.good bs.length := numS_good _ _ _ _ (.inr (by simp [maxI])) (Nat.zero_le _)
  have hD : decR bs = manB bs (numS bs maxI 0 (numS bs maxI 0 (.ok 0)).2).1 (numS bs maxI 0 (numS bs maxI 0 (.ok 0)).2).2 (kind2 bs (numS bs maxI 0 (.ok 0)).2 (kind1 bs (.ok 0) (0, 0))) := rfl
  rw [hD]
  unfold refR kind1
  by_cases h77 : (numS bs maxI 0 (.ok 0)).1 = 77
  · rw [if_pos h77, if_pos h77]
    have hg2 := numS_good bs maxI 0 (numS bs maxI 0 (.ok 0)).2 (.inr (by simp [maxI])) hg1
    generalize (numS bs maxI 0 (.ok 0)).2 = s1 at hg1 hg2 ⊢
    unfold kind2 refK
    generalize numS bs maxI 0 s1 = q2 at hg2 ⊢
    by_cases hk : q2.1 = 3 ∨ q2.1 = 4
    · rw [if_pos hk, if_pos hk, refB_man _ _ _ hk]
      refine ⟨?_, fun _ => rfl⟩
      rcases Classical.em ((manB bs q2.1 q2.2 (0, 0)).2.2.1 = 0) with h0 | h0
      · rw [refF_zero h0]; exact (if_pos h0).symm
      · rcases manB_rf bs q2.1 q2.2 hk with h1 | ⟨a, ha⟩
        · exact absurd h1 h0
        · rw [ha, refF_ok h0]; exact (if_neg h0).symm
    · rw [if_neg hk, if_neg hk]
      have hm : ∀ rf, manB bs q2.1 q2.2 rf = (⟨(q2.1 : Int), (sizedS bs 4096 q2.2).1, zeroD, [], []⟩, (sizedS bs 4096 q2.2).2, rf) := fun rf => by
        unfold manB
        rw [if_neg (fun e => hk (.inl e)), if_neg (fun e => hk (.inr e))]
      rw [hm]
      obtain ⟨k, s2⟩ := q2
      cases s2 with
      | bad e p =>
        rw [refF_bad hg2.1, refuse_bad (s := .bad e p) (hg2.1 : e ≠ 0)]
        exact ⟨rfl, fun h => absurd h hg2.1⟩
      | ok a =>
        rw [refF_ok (rf := (20, 0)) (by decide), refuse_ok]
        exact ⟨rfl, fun h => by cases h⟩
  · rw [if_neg h77, if_neg h77]
    generalize (numS bs maxI 0 (.ok 0)).2 = s1 at hg1 ⊢
    cases s1 with
    | bad e p =>
      have hq : numS bs maxI 0 (.bad e p) = (0, .bad e p) := rfl
      have hk : kind2 bs (.bad e p) (refuseF (.bad e p) (0, 0) 20 0) = (0, 0) := by
        rw [refuse_bad (s := .bad e p) (hg1.1 : e ≠ 0)]; unfold kind2
        rw [hq, if_neg (by simp)]; exact refuse_bad (s := .bad e p) (hg1.1 : e ≠ 0)
      rw [hk, hq]
      have hm : manB bs 0 (.bad e p) (0, 0) = (⟨0, [], zeroD, [], []⟩, .bad e p, (0, 0)) := rfl
      rw [hm, refF_bad hg1.1]
      exact ⟨rfl, fun h => absurd h hg1.1⟩
    | ok a =>
      rw [refF_ok (rf := (20, 0)) (by decide), refuse_ok, kept1 _ _ _ (by decide), keptB _ _ _ _ (by decide)]
      exact ⟨rfl, fun h => by cases h⟩
theorem refR_long (bs : List UInt8) (h : ¬ 4096 < bs.length) : refF bs (refR bs).2.1 (refR bs).2.2 = decF bs ∧ (if (refF bs (refR bs).2.1 (refR bs).2.2).1 = 0 then (refR bs).1 else zeroM) = decM bs := by
  obtain ⟨h1, h2⟩ := refR_dec bs
  have hF : decF bs = srcEnd bs (decR bs).2.1 (decR bs).2.2 := if_neg h
  refine ⟨by rw [hF]; exact h1, ?_⟩
  unfold decM
  rw [hF, h1]
  by_cases h0 : (srcEnd bs (decR bs).2.1 (decR bs).2.2).1 = 0
  · rw [if_pos h0, if_pos h0, h2 h0]
  · rw [if_neg h0, if_neg h0]
theorem lstR_len (bs : List UInt8) (s : RS) (rf : Nat × Nat) (most : Nat) : (lstR bs s rf most).1.length ≤ most := by
  unfold lstR
  split
  · exact Nat.zero_le _
  · rw [dscN_length]; omega
theorem decM_lens (bs : List UInt8) : (decM bs).l.length ≤ 1000000 ∧ (decM bs).u.length ≤ 1000000 := by
  unfold decM
  split
  · show (manB bs _ _ _).1.l.length ≤ _ ∧ (manB bs _ _ _).1.u.length ≤ _
    unfold manB
    split
    · exact ⟨Nat.le_trans (lstR_len _ _ _ _) (by decide), Nat.zero_le _⟩
    · split
      · exact ⟨Nat.zero_le _, Nat.le_trans (lstR_len _ _ _ _) (by decide)⟩
      · exact ⟨Nat.zero_le _, Nat.zero_le _⟩
  · exact ⟨Nat.zero_le _, Nat.zero_le _⟩
end Go.Proofs.Ytljnpaikjljmbaa
/- Contract of the document's side: a description that is read. -/
namespace Go.Proofs.Ytljnpaikjljmbaa
open Go.RowKit

/-- a reader, a result's block R and a variable's block D, both new -/
structure MdR (w0 W : World) (g B c : Nat) (A : Option Addr) (bs : List UInt8) (s : RS) (R D : Nat) (tR tD : TypeId) (cR cD : Array Value) : Prop where
  src : RfB W g B c A bs s
  chg : Chg [g] w0 W
  lt : g < w0.heap.size
  hR : w0.heap.size ≤ R
  bR : Blk W R tR cR
  hD : w0.heap.size ≤ D
  bD : Blk W D tD cD
  ne : R ≠ D
section
variable {w0 W W' : World} {g B c : Nat} {A : Option Addr} {bs : List UInt8} {s s' : RS} {R D : Nat} {tR tD : TypeId} {cR cD cD' : Array Value}
theorem MdR.call (h : MdR w0 W g B c A bs s R D tR tD cR cD) (hp : RfP W g B c A bs s' W') : MdR w0 W' g B c A bs s' R D tR tD cR cD :=
  ⟨hp.1, h.chg.trans hp.2 (fun _ hb => .inl hb), h.lt, h.hR, h.bR.chg hp.2 (by have := h.lt; have := h.hR; simp; omega), h.hD, h.bD.chg hp.2 (by have := h.lt; have := h.hD; simp; omega), h.ne⟩
theorem MdR.upd (h : MdR w0 W g B c A bs s R D tR tD cR cD) (hc : Chg [D] W W') (hb : Blk W' D tD cD') : MdR w0 W' g B c A bs s R D tR tD cR cD' :=
  ⟨h.src.chg hc (by have := h.lt; have := h.hD; simp; omega) (fun b hb hm => by have := h.lt; have := h.hD; have := h.src.hB; simp at hm; omega), h.chg.trans hc (fun b hb => .inr (by have := h.hD; simp at hb; omega)), h.lt, h.hR, h.bR.chg hc (by simpa using h.ne), h.hD, hb, h.ne⟩
theorem MdR.keep (h : MdR w0 W g B c A bs s R D tR tD cR cD) (hb : Below W.heap.size W W') : MdR w0 W' g B c A bs s R D tR tD cR cD :=
  ⟨h.src.keep hb, h.chg.trans (Chg.of_below (L := []) hb) (fun _ hb => by cases hb), h.lt, h.hR, h.bR.keep hb, h.hD, h.bD.keep hb, h.ne⟩
/-- the result is written -/
theorem MdR.fin (h : MdR w0 W g B c A bs s R D tR tD cR cD) (hc : Chg [R] W W') : RfP w0 g B c A bs s W' :=
  ⟨h.src.chg hc (by have := h.lt; have := h.hR; simp; omega) (fun b hb hm => by have := h.lt; have := h.hR; have := h.src.hB; simp at hm; omega), h.chg.trans hc (fun b hb => .inr (by have := h.hR; simp at hb; omega))⟩
end
theorem dcs_set0 (d : DD) (z : Int) : (dcs d).toArray.setIfInBounds 0 (.int .i64 z) = (dcs { d with m := z }).toArray := by
  rw [List.setIfInBounds_toArray]; rfl
set_option maxRecDepth 20000 in
set_option maxHeartbeats 2000000 in
theorem refReads_calls (g B c : Nat) (A : Option Addr) (bs : List UInt8) (s : RS) (w : World) (h : RfB w g B c A bs s) :
    Calls Try.prog 74 #[.pointer (some ⟨g, 0, none⟩)] w fun e w' => e = .returned (.agg (dcs (dscR bs s).1).toArray) ∧ RfP w g B c A bs (dscR bs s).2 w' := by
  have hR : dscR bs s = (⟨((numS bs maxI 0 s).1 : Int), (idS bs (numS bs maxI 0 s).2).1, ((numS bs maxI 0 (idS bs (numS bs maxI 0 s).2).2).1 : Int), (sizedS bs 4096 (numS bs maxI 0 (idS bs (numS bs maxI 0 s).2).2).2).1⟩, (sizedS bs 4096 (numS bs maxI 0 (idS bs (numS bs maxI 0 s).2).2).2).2) := rfl
  generalize dscR bs s = DR at hR ⊢
  have h32 := idS_length bs (numS bs maxI 0 s).2
  have HN1 := hid (fun W (h : RfB W g B c A bs s) => refRNum_calls g B c A bs s W h)
  have HN2 := hid (fun W (h : RfB W g B c A bs (numS bs maxI 0 s).2) => refRID_calls g B c A bs _ W h)
  have HN3 := hid (fun W (h : RfB W g B c A bs (idS bs (numS bs maxI 0 s).2).2) => refRNum_calls g B c A bs _ W h)
  have HN4 := hid (fun W (h : RfB W g B c A bs (numS bs maxI 0 (idS bs (numS bs maxI 0 s).2).2).2) => refRText_calls g B c A bs _ W 4096 h)
  generalize sizedS bs 4096 (numS bs maxI 0 (idS bs (numS bs maxI 0 s).2).2).2 = q4 at HN4 hR
  generalize numS bs maxI 0 (idS bs (numS bs maxI 0 s).2).2 = q3 at HN3 HN4 hR
  generalize idS bs (numS bs maxI 0 s).2 = q2 at HN2 HN3 hR h32
  generalize numS bs maxI 0 s = q1 at HN1 HN2 hR
  have HR := hid hR
  have H32 := hid h32
  obtain ⟨k0, k1, hb⟩ := two_new w zdc zdc 25 25
  have HM := hid (show MdR w ((w.alloc (.cells zdc 25)).alloc (.cells zdc 25)) g B c A bs s w.heap.size (w.heap.size + 1) 25 25 zdc (dcs zeroD).toArray from ⟨h.keep hb, Chg.of_below hb, h.lt, Nat.le_refl _, k0, by omega, k1, by omega⟩)
  have hz := (zero_of_info infoD).1
  have HSZD := hid (show zdc.size = 35 from rfl)
  generalize zdc = zd at hz HM HSZD
  clear h hR h32 k0 k1 hb
  generalize hD : w.heap.size + 1 = D at HM
  have HDD := hid hD
  have hD' := hD
  clear hD
  go_enter Try.func74, Try.ntmps74
  go_wp2_with fail
  generalize (w.alloc (.cells zd 25)).alloc (.cells zd 25) = w1 at HM ⊢
  clear hz
  refine (HN1.out w1 HM.out.src).mono ?_
  rintro _ w2 ⟨rfl, hp⟩
  have HM2 := hid (HM.out.call hp)
  have d0 := HM2.out.bD.cell 0 (by rw [List.getElem?_toArray]; exact dcs_0 _)
  have f0 := HM2.out.bD.frozen 0
  have HM3 := hid (show MdR w (w2.setCell ⟨D, 0, none⟩ (.int .i64 (q1.1 : Int))) g B c A bs q1.2 w.heap.size D 25 25 zd (dcs ⟨(q1.1 : Int), zeroB 32, 0, []⟩).toArray from
    HM2.out.upd (chg_set (L := [D]) (by simp) 0 _) (by have := HM2.out.bD.set_ 0 (.int .i64 (q1.1 : Int)); rw [dcs_set0] at this; exact this))
  clear hp HN1 HM
  go_wp2_with fail
  generalize w2.setCell ⟨D, 0, none⟩ (.int .i64 (q1.1 : Int)) = w3 at HM3 ⊢
  clear d0 f0 HM2 hD'
  refine (HN2.out w3 HM3.out.src).mono ?_
  rintro _ w4 ⟨rfl, hp⟩
  have HM4 := hid (HM3.out.call hp)
  have KP := hid (show Blk w4 D 25 (part [.int .i64 (q1.1 : Int)] ((zeroB 32).map bv) [.int .i64 0, .string (strB [])]) from by have := HM4.out.bD; rw [dcs_part] at this; exact this)
  have HSI := hid (size_idl H32.out)
  have HL := hid (show (q2.1.map bv).length = ((zeroB 32).map bv).length from by rw [List.length_map, H32.out]; rfl)
  clear hp HN2 HM3
  go_wp2_with ((refine wpList_store_part rfl 23 _ _ rfl D 1 (q2.1.map bv) rfl rfl KP.out rfl HSI.out HL.out (oneCell_bytes _) ?_); refine Held.go ?_)
  have HM5 := hid (show MdR w (w4.setRow D (part [.int .i64 (q1.1 : Int)] (q2.1.map bv) [.int .i64 0, .string (strB [])])) g B c A bs q2.2 w.heap.size D 25 25 zd (dcs ⟨(q1.1 : Int), q2.1, 0, []⟩).toArray from
    HM4.out.upd (chg_row _ _ _) (by have := HM4.out.bD.setRow (part [.int .i64 (q1.1 : Int)] (q2.1.map bv) [.int .i64 0, .string (strB [])]); rw [dcs_part]; exact this))
  generalize w4.setRow D (part [.int .i64 (q1.1 : Int)] (q2.1.map bv) [.int .i64 0, .string (strB [])]) = w5 at HM5 ⊢
  clear KP HSI HL HM4
  unfold Held
  go_wp2_with fail
  refine (HN3.out w5 HM5.out.src).mono ?_
  rintro _ w6 ⟨rfl, hp⟩
  have HM6 := hid (HM5.out.call hp)
  have d33 := HM6.out.bD.cell 33 (by rw [List.getElem?_toArray]; exact dcs_33 H32.out)
  have f33 := HM6.out.bD.frozen 33
  have HM7 := hid (show MdR w (w6.setCell ⟨D, 33, none⟩ (.int .i64 (q3.1 : Int))) g B c A bs q3.2 w.heap.size D 25 25 zd (dcs ⟨(q1.1 : Int), q2.1, (q3.1 : Int), []⟩).toArray from
    HM6.out.upd (chg_set (L := [D]) (by simp) 33 _) (by have := HM6.out.bD.set_ 33 (.int .i64 (q3.1 : Int)); rw [dcs_set33 H32.out] at this; exact this))
  clear hp HN3 HM5
  generalize (q3.1 : Int) = z3 at HM7 HR ⊢
  have HSAF : Hid ((Try.prog.info? 25).map (·.size) = some (dcs ⟨(q1.1 : Int), q2.1, z3, q4.1⟩).toArray.size) := size_descA H32.out
  go_wp2_with fail
  generalize w6.setCell ⟨D, 33, none⟩ (.int .i64 z3) = w7 at HM7 ⊢
  clear d33 f33 HM6
  refine (HN4.out w7 HM7.out.src).mono ?_
  rintro _ w8 ⟨rfl, hp⟩
  have HM8 := hid (HM7.out.call hp)
  have d34 := HM8.out.bD.cell 34 (by rw [List.getElem?_toArray]; exact dcs_34 H32.out)
  have f34 := HM8.out.bD.frozen 34
  have HM9 := hid (show MdR w (w8.setCell ⟨D, 34, none⟩ (.string (strB q4.1))) g B c A bs q4.2 w.heap.size D 25 25 zd (dcs ⟨(q1.1 : Int), q2.1, z3, q4.1⟩).toArray from
    HM8.out.upd (chg_set (L := [D]) (by simp) 34 _) (by have := HM8.out.bD.set_ 34 (.string (strB q4.1)); rw [dcs_set34 H32.out] at this; exact this))
  have HRUN := hid (run_loadVar_row (P := Try.prog) (w8.setCell ⟨D, 34, none⟩ (.string (strB q4.1))) D _ 25 _ (0, 0) _ HM9.out.bD Try.underlying25 rfl HSAF.out)
  have HOF := hid (dcs_oneA ⟨(q1.1 : Int), q2.1, z3, q4.1⟩)
  have HSZF : Hid (zd.size = (dcs ⟨(q1.1 : Int), q2.1, z3, q4.1⟩).toArray.size) := by
    have := HSZD.out
    rw [Hid, this, List.size_toArray, dcs_length (d := ⟨(q1.1 : Int), q2.1, z3, q4.1⟩) H32.out]
  have HFIN := hid (show RfP w g B c A bs q4.2 ((w8.setCell ⟨D, 34, none⟩ (.string (strB q4.1))).setRow w.heap.size (dcs ⟨(q1.1 : Int), q2.1, z3, q4.1⟩).toArray) from HM9.out.fin (chg_row _ _ _))
  have HDR := hid (show (dcs DR.1).toArray = (dcs ⟨(q1.1 : Int), q2.1, z3, q4.1⟩).toArray ∧ DR.2 = q4.2 from by rw [HR.out]; exact ⟨rfl, rfl⟩)
  generalize (dcs ⟨(q1.1 : Int), q2.1, z3, q4.1⟩).toArray = cF at HDR HRUN HOF HSZF HFIN HSAF HM9
  clear hp HN4 HM7 HM8
  generalize strB q4.1 = st at d34 HM9 HRUN HFIN ⊢
  go_wp2_with (first | (refine wpList_load_run rfl 25 _ rfl _ _ rfl HRUN.out ?_) | ((refine wpList_store_blk rfl 25 _ _ rfl w.heap.size _ rfl rfl 25 _ HM9.out.bR HSAF.out HSZF.out HOF.out ?_); refine Held.go ?_))
  have KF := hid (HM9.out.bR.setRow cF)
  generalize (w8.setCell ⟨D, 34, none⟩ (.string st)).setRow w.heap.size cF = w9 at KF HFIN ⊢
  unfold Held
  go_wp2_with fail
  refine bodyPost_ret (v := .agg cF) (results_cell_row rfl _ _ w.heap.size 25 _ (0, 0) _ rfl KF.out Try.underlying25 rfl HSAF.out) rfl ⟨by rw [HDR.out.1], by rw [HDR.out.2]; exact HFIN.out⟩
end Go.Proofs.Ytljnpaikjljmbaa
/- Contract of the document's side: a manifest that is read. -/
namespace Go.Proofs.Ytljnpaikjljmbaa
open Go.RowKit

theorem refRest (g B c : Nat) (A : Option Addr) (bs : List UInt8) (s : RS) (w : World) (h : RfB w g B c A bs s) :
    Calls Try.prog 49 #[.pointer (some ⟨g, 0, none⟩)] w fun e w' => e = .returned (.int .i64 (restS bs s : Int)) ∧ Below w.heap.size w w' := by
  obtain ⟨⟨a, h⟩, -⟩ := h
  exact refRest_calls g B bs.length c A bs a s w h
/-- a reader, two results' blocks and a variable's block behind them -/
structure Md3 (w0 W : World) (g B c : Nat) (A : Option Addr) (bs : List UInt8) (s : RS) (cR cF cD : Array Value) : Prop where
  src : RfB W g B c A bs s
  chg : Chg [g] w0 W
  lt : g < w0.heap.size
  bR : Blk W w0.heap.size 28 cR
  bF : Blk W (w0.heap.size + 1) 43 cF
  bD : Blk W (w0.heap.size + 2) 28 cD
def RdP (w : World) (g B c : Nat) (A : Option Addr) (bs : List UInt8) (R : MM × RS × (Nat × Nat)) (e : Ending) (w' : World) : Prop :=
  ∃ v1 v2, e = .returned (.tuple #[.agg (mcs R.1 v1 v2).toArray, fltV R.2.2]) ∧ OwnD w' w.heap.size v1 R.1.l ∧ OwnD w' w.heap.size v2 R.1.u ∧ RfP w g B c A bs R.2.1 w'
section
variable {w0 W W' : World} {g B c : Nat} {A : Option Addr} {bs : List UInt8} {s s' : RS} {cR cF cD cD' : Array Value} {L : List Nat}
theorem Md3.call (h : Md3 w0 W g B c A bs s cR cF cD) (hp : RfP W g B c A bs s' W') : Md3 w0 W' g B c A bs s' cR cF cD :=
  ⟨hp.1, h.chg.trans hp.2 (fun _ hb => .inl hb), h.lt, h.bR.chg hp.2 (by have := h.lt; simp; omega), h.bF.chg hp.2 (by have := h.lt; simp; omega), h.bD.chg hp.2 (by have := h.lt; simp; omega)⟩
theorem Md3.high (h : Md3 w0 W g B c A bs s cR cF cD) (hc : Chg L W W') (hL : ∀ b ∈ L, w0.heap.size + 3 ≤ b) : Md3 w0 W' g B c A bs s cR cF cD :=
  ⟨h.src.chg hc (fun hm => by have := hL _ hm; have := h.lt; omega) (fun b hb hm => by have := hL _ hm; have := h.lt; have := h.src.hB; omega), h.chg.trans hc (fun b hb => .inr (by have := hL b hb; omega)), h.lt, h.bR.chg hc (fun hm => by have := hL _ hm; omega), h.bF.chg hc (fun hm => by have := hL _ hm; omega), h.bD.chg hc (fun hm => by have := hL _ hm; omega)⟩
theorem Md3.keep (h : Md3 w0 W g B c A bs s cR cF cD) (hb : Below W.heap.size W W') : Md3 w0 W' g B c A bs s cR cF cD := h.high (L := []) (Chg.of_below hb) (by simp)
theorem Md3.upd (h : Md3 w0 W g B c A bs s cR cF cD) (hc : Chg [w0.heap.size + 2] W W') (hb : Blk W' (w0.heap.size + 2) 28 cD') : Md3 w0 W' g B c A bs s cR cF cD' :=
  ⟨h.src.chg hc (by have := h.lt; simp; omega) (fun b hb hm => by have := h.lt; have := h.src.hB; simp at hm; omega), h.chg.trans hc (fun b hb => .inr (by simp at hb; omega)), h.lt, h.bR.chg hc (by simp), h.bF.chg hc (by simp), hb⟩
theorem Md3.run (h : Md3 w0 W g B c A bs s cR cF cD) (hs : (Try.prog.info? 28).map (·.size) = some cD.size) : (loadVar 28 ⟨w0.heap.size + 2, 0, none⟩).run Try.prog W = .ok (.agg cD) W :=
  run_loadVar_row W _ _ _ _ (0, 0) _ h.bD Try.underlying28 rfl hs
/-- the end -/
theorem Md3.done {m : MM} {k : Int} {t : List UInt8} {cc : DD} {l u : List DD} {v1 v2 : Value} {x y : Nat} {MR : MM × RS × (Nat × Nat)} (h : Md3 w0 W g B c A bs s cR cF (mcs ⟨k, t, cc, l, u⟩ v1 v2).toArray) (hM : MR = (m, s, (x, y))) (o1 : OwnD W (w0.heap.size + 3) v1 m.l) (o2 : OwnD W (w0.heap.size + 3) v2 m.u) (hm : (mcs m v1 v2).toArray = (mcs ⟨k, t, cc, l, u⟩ v1 v2).toArray := by rfl) (h32 : cc.id.length = 32 := by assumption) :
    (∀ tmps : Array Value, tmps.getD 4 undef = .pointer (some ⟨w0.heap.size, 0, none⟩) → tmps.getD 5 undef = .pointer (some ⟨w0.heap.size + 1, 0, none⟩) →
      (results Try.f47 tmps).run Try.prog ((W.setRow w0.heap.size (mcs m v1 v2).toArray).setRow (w0.heap.size + 1) #[.int .i64 (x : Int), .int .i64 (y : Int)]) = .ok (.tuple #[.agg (mcs m v1 v2).toArray, .agg #[.int .i64 (x : Int), .int .i64 (y : Int)]]) ((W.setRow w0.heap.size (mcs m v1 v2).toArray).setRow (w0.heap.size + 1) #[.int .i64 (x : Int), .int .i64 (y : Int)])) ∧
    RdP w0 g B c A bs MR (.returned (.tuple #[.agg (mcs m v1 v2).toArray, .agg #[.int .i64 (x : Int), .int .i64 (y : Int)]])) ((W.setRow w0.heap.size (mcs m v1 v2).toArray).setRow (w0.heap.size + 1) #[.int .i64 (x : Int), .int .i64 (y : Int)]) := by
  have g1 := grown_setRow W w0.heap.size (mcs m v1 v2).toArray
  have k1 := h.bR.setRow (mcs m v1 v2).toArray
  have k2 := h.bF.grown g1 (by simp)
  have g2 := grown_setRow (W.setRow w0.heap.size (mcs m v1 v2).toArray) (w0.heap.size + 1) #[.int .i64 (x : Int), .int .i64 (y : Int)]
  have k3 := k1.grown g2 (by simp)
  have k4 := k2.setRow #[.int .i64 (x : Int), .int .i64 (y : Int)]
  have c1 : Chg [w0.heap.size, w0.heap.size + 1] W ((W.setRow w0.heap.size (mcs m v1 v2).toArray).setRow (w0.heap.size + 1) #[.int .i64 (x : Int), .int .i64 (y : Int)]) :=
    (Chg.of_grown (L := [w0.heap.size, w0.heap.size + 1]) g1 (fun g e => by cases e; simp)).trans (Chg.of_grown (L := [w0.heap.size, w0.heap.size + 1]) g2 (fun g e => by cases e; simp)) (fun b hb => .inl hb)
  refine ⟨fun tmps h4 h5 => results_cells2 rfl tmps _ _ _ _ _ h4 h5 (run_loadVar_row _ _ _ _ _ (0, 0) _ k3 Try.underlying28 rfl ?_) (run_loadVar_row _ _ _ _ _ (0, 0) _ k4 Try.underlying43 rfl (size_fault _ rfl)), ?_⟩
  · rw [hm]; exact size_man (m := ⟨k, t, cc, l, u⟩) h32 _ _
  · rw [hM]
    have hlt := h.lt
    have hB := h.src.hB
    exact ⟨v1, v2, rfl, (o1.chg c1 (fun b e hm => by have := (World.ownsRow.lt o1 b e).1; simp at hm; omega)).lower (by omega), (o2.chg c1 (fun b e hm => by have := (World.ownsRow.lt o2 b e).1; simp at hm; omega)).lower (by omega), h.src.chg c1 (by simp; omega) (fun b hb hm => by simp at hm; omega), h.chg.trans c1 (fun b hb => .inr (by simp at hb; omega))⟩
end
theorem mcs_set0 (m : MM) (v1 v2 : Value) (z : Int) : (mcs m v1 v2).toArray.setIfInBounds 0 (.int .i64 z) = (mcs { m with k := z } v1 v2).toArray := by
  rw [List.setIfInBounds_toArray]; rfl
set_option maxRecDepth 20000 in
set_option maxHeartbeats 4000000 in
theorem refRead_calls (g B c : Nat) (A : Option Addr) (bs : List UInt8) (w : World) (h : RfB w g B c A bs (.ok 0)) :
    Calls Try.prog 47 #[.pointer (some ⟨g, 0, none⟩), .int .i64 (bs.length : Int)] w (RdP w g B c A bs (refR bs)) := by
  have HN1 := hid (fun W (h : RfB W g B c A bs (.ok 0)) => refRNum_calls g B c A bs (.ok 0) W h)
  have hR : refR bs = if (numS bs maxI 0 (.ok 0)).1 = 77 then refK bs (numS bs maxI 0 (numS bs maxI 0 (.ok 0)).2) else (zeroM, (numS bs maxI 0 (.ok 0)).2, (20, 0)) := rfl
  generalize refR bs = MR at hR ⊢
  generalize numS bs maxI 0 (.ok 0) = q1 at HN1 hR
  obtain ⟨n1, s1⟩ := q1
  dsimp only at HN1 hR
  have HR := hid hR
  obtain ⟨k0, k1, hb⟩ := two_new w zmc #[.int .i64 0, .int .i64 0] 28 43
  have hb2 := below_new ((w.alloc (.cells zmc 28)).alloc (.cells #[.int .i64 0, .int .i64 0] 43)) (.cells zmc 28)
  have k2 := Blk.new ((w.alloc (.cells zmc 28)).alloc (.cells #[.int .i64 0, .int .i64 0] 43)) 28 zmc
  have hsz : ((w.alloc (.cells zmc 28)).alloc (.cells #[.int .i64 0, .int .i64 0] 43)).heap.size = w.heap.size + 2 := by rw [size_new, size_new]
  have HM := hid (show Md3 w (((w.alloc (.cells zmc 28)).alloc (.cells #[.int .i64 0, .int .i64 0] 43)).alloc (.cells zmc 28)) g B c A bs (.ok 0) zmc #[.int .i64 0, .int .i64 0] (mcs zeroM nilV nilV).toArray from
    ⟨(h.keep hb).keep hb2, (Chg.of_below hb).trans (Chg.of_below (L := []) hb2) (fun _ hb => by cases hb), h.lt, k0.keep hb2, k1.keep hb2, by rw [hsz] at k2; exact k2⟩)
  have hz := (zero_of_info infoM).1
  have HSZ := hid (fun m (h : m.c.id.length = 32) v1 v2 => size_man2 m h v1 v2)
  have HSA := hid (fun (m : MM) (h : m.c.id.length = 32) (v1 v2 : Value) => size_man (m := m) h v1 v2)
  generalize zmc = zd at hz HM HSZ
  clear h hR k0 k1 k2 hb hb2 hsz
  go_enter Try.func47, Try.ntmps47
  go_wp2_with fail
  generalize ((w.alloc (.cells zd 28)).alloc (.cells #[.int .i64 0, .int .i64 0] 43)).alloc (.cells zd 28) = w1 at HM ⊢
  clear hz
  refine (HN1.out w1 HM.out.src).mono ?_
  rintro _ w2 ⟨rfl, hp⟩
  have HM2 := hid (HM.out.call hp)
  clear hp HN1 HM
  have hz32 : zeroD.id.length = 32 := rfl
  by_cases h77 : n1 = 77
  · subst h77
    have HMR := hid (show MR = refK bs (numS bs maxI 0 s1) from by rw [HR.out, if_pos rfl])
    clear HR
    have HN2 := hid (fun W (h : RfB W g B c A bs s1) => refRNum_calls g B c A bs s1 W h)
    generalize numS bs maxI 0 s1 = q2 at HN2 HMR
    obtain ⟨k, s2⟩ := q2
    dsimp only at HN2 HMR
    rw [show ((77 : Nat) : Int) = 77 from rfl]
    go_wp2_with fail
    refine (HN2.out w2 HM2.out.src).mono ?_
    rintro _ w3 ⟨rfl, hp⟩
    have HM3 := hid (HM2.out.call hp)
    have d0 := HM3.out.bD.cell 0 (by rw [List.getElem?_toArray]; exact mcs_0 _ _ _)
    have f0 := HM3.out.bD.frozen 0
    have HM4 := hid (show Md3 w (w3.setCell ⟨w.heap.size + 2, 0, none⟩ (.int .i64 (k : Int))) g B c A bs s2 zd #[.int .i64 0, .int .i64 0] (mcs ⟨(k : Int), [], zeroD, [], []⟩ nilV nilV).toArray from
      HM3.out.upd (chg_set (L := [w.heap.size + 2]) (by simp) 0 _) (by have := HM3.out.bD.set_ 0 (.int .i64 (k : Int)); rw [mcs_set0] at this; exact this))
    have e0 := HM4.out.bD.cell 0 (by rw [List.getElem?_toArray]; exact mcs_0 _ _ _)
    dsimp only at e0
    generalize hw4 : w3.setCell ⟨w.heap.size + 2, 0, none⟩ (.int .i64 (k : Int)) = w4 at HM4 e0
    clear hp HN2 HM2 HM3
    by_cases hk : k = 3 ∨ k = 4
    · have HMB := hid (show MR = refB bs k s2 from by rw [HMR.out]; exact if_pos hk)
      clear HMR
      have HTX := hid (fun W (h : RfB W g B c A bs s2) => refRText_calls g B c A bs s2 W 4096 h)
      obtain ⟨t, ht⟩ : ∃ t, sizedS bs 4096 s2 = t := ⟨_, rfl⟩
      have HT := hid ht
      rw [ht] at HTX
      obtain ⟨t, s3⟩ := t
      dsimp only at HTX ht
      clear ht
      rcases hk with hk3 | hk4
      · subst hk3
        have HMC := hid (show MR = refT bs 3 16 t (dscR bs s3).1 (dscR bs s3).2 from by
          have h := HMB.out
          unfold refB at h
          rw [if_pos rfl, HT.out] at h; exact h)
        clear HMB HT
        rw [show ((3 : Nat) : Int) = 3 from rfl] at e0 HM4 hw4 ⊢
        go_wp2_with fail
        clear hw4
        refine (HTX.out w4 HM4.out.src).mono ?_
        rintro _ w5 ⟨rfl, hp⟩
        have HM5 := hid (HM4.out.call hp)
        have d1 := HM5.out.bD.cell 1 (by rw [List.getElem?_toArray]; exact mcs_1 _ _ _)
        have f1 := HM5.out.bD.frozen 1
        dsimp only at d1
        have HM6 := hid (show Md3 w (w5.setCell ⟨w.heap.size + 2, 1, none⟩ (.string (strB t))) g B c A bs s3 zd #[.int .i64 0, .int .i64 0] (mcs ⟨3, t, zeroD, [], []⟩ nilV nilV).toArray from
          HM5.out.upd (chg_set (L := [w.heap.size + 2]) (by simp) 1 _) (by have := HM5.out.bD.set_ 1 (.string (strB t)); rw [mcs_set1] at this; exact this))
        have c0 := HM6.out.bD.cell 0 (by rw [List.getElem?_toArray]; exact mcs_0 _ _ _)
        dsimp only at c0
        generalize strB t = st at HM6 c0 ⊢
        generalize hw6 : w5.setCell ⟨w.heap.size + 2, 1, none⟩ (.string st) = w6 at HM6 c0
        clear hp HTX HM4 HM5 e0 d0 f0
        have HDS := hid (refReads_calls g B c A bs s3 w6 HM6.out.src)
        have hcc := dscR_id bs s3
        generalize dscR bs s3 = DR at HDS HMC hcc
        obtain ⟨cc, s4⟩ := DR
        dsimp only at HDS HMC hcc
        have H32 := hid hcc
        go_wp2_with fail
        clear hw6 d1 f1 c0
        refine HDS.out.mono ?_
        rintro _ w6b ⟨rfl, hp⟩
        have HM6b := hid (HM6.out.call hp)
        have KP := hid (show Blk w6b (w.heap.size + 2) 28 (part [.int .i64 3, .string (strB t)] (dcs zeroD) [nilV, nilV]) from by have := HM6b.out.bD; rw [mcs_part] at this; exact this)
        have HSI := hid (size_desc H32.out)
        have HLL := hid (show (dcs cc).length = (dcs zeroD).length from by rw [dcs_length H32.out, dcs_length zeroD_id])
        have HON := hid (dcs_one cc)
        clear hp HDS HM6
        go_wp2_with ((refine wpList_store_part rfl 25 _ _ rfl (w.heap.size + 2) 2 (dcs cc) rfl rfl KP.out rfl HSI.out HLL.out HON.out ?_); refine Held.go ?_)
        have HM7 := hid (show Md3 w (w6b.setRow (w.heap.size + 2) (part [.int .i64 3, .string (strB t)] (dcs cc) [nilV, nilV])) g B c A bs s4 zd #[.int .i64 0, .int .i64 0] (mcs ⟨3, t, cc, [], []⟩ nilV nilV).toArray from
          HM6b.out.upd (chg_row _ _ _) (by have := HM6b.out.bD.setRow (part [.int .i64 3, .string (strB t)] (dcs cc) [nilV, nilV]); rw [mcs_part]; exact this))
        generalize w6b.setRow (w.heap.size + 2) (part [.int .i64 3, .string (strB t)] (dcs cc) [nilV, nilV]) = w7 at HM7 ⊢
        clear KP HSI HLL HON HM6b
        unfold Held
        have HMR := HMC
        clear HMC
        --DEV
        have HRT := hid (show MR = if 16 < (numS bs maxI 0 s4).1 then (⟨3, t, cc, [], []⟩, (numS bs maxI 0 s4).2, (4, bs.length - restS bs s4)) else (⟨3, t, cc, (dscN bs (numS bs maxI 0 s4).1 (numS bs maxI 0 s4).2).1, []⟩, (dscN bs (numS bs maxI 0 s4).1 (numS bs maxI 0 s4).2).2, (0, 0)) from by rw [HMR.out]; rfl)
        clear HMR
        have HRS := hid (refRest g B c A bs s4 w7 HM7.out.src)
        have HN5 := hid (fun W (h : RfB W g B c A bs s4) => refRNum_calls g B c A bs s4 W h)
        generalize numS bs maxI 0 s4 = q5 at HRT HN5
        obtain ⟨n5, s5⟩ := q5
        have hrl := restS_le bs s4
        have hln : (bs.length : Int) ≤ 549755813888 := by have := HM7.out.src.1; obtain ⟨_, h⟩ := this; have := h.2.2.2.2.1; omega
        have HAT := hid (show (bs.length : Int) - (restS bs s4 : Int) = ((bs.length - restS bs s4 : Nat) : Int) from by omega)
        have hr1 : (restS bs s4 : Int) ≤ (bs.length : Int) := by omega
        have hr0 : (0 : Int) ≤ (restS bs s4 : Int) := by omega
        generalize bs.length - restS bs s4 = at_ at HAT HRT
        generalize restS bs s4 = rs at HRS HAT hr1 hr0
        generalize bs.length = L at HAT hln hr1 ⊢
        clear hrl
        go_wp2_with fail
        refine HRS.out.mono ?_
        rintro _ w8 ⟨rfl, hb8⟩
        have HM8 := hid (HM7.out.keep hb8)
        clear hb8 HRS HM7
        go_wp2_with fail
        rw [HAT.out]
        refine (HN5.out w8 HM8.out.src).mono ?_
        rintro _ w9 ⟨rfl, hp⟩
        have HM9 := hid (HM8.out.call hp)
        clear hp HN5 HM8
        dsimp only at HRT HM9 ⊢
        by_cases hmost : 16 < n5
        · have hmost' : (16 : Int) < (n5 : Int) := by omega
          have HE := hid (show MR = (⟨3, t, cc, [], []⟩, s5, (4, at_)) from by rw [HRT.out, if_pos hmost])
          clear HRT hmost HAT hr1 hr0 hln
          obtain ⟨hd1, hd2⟩ := HM9.out.done HE.out (OwnD.nil _ _) (OwnD.nil _ _)
          have HD1 := hid hd1; have HD2 := hid hd2
          have HRUN := hid (HM9.out.run (HSA.out _ H32.out _ _))
          have HS := hid (HSA.out ⟨3, t, cc, [], []⟩ H32.out nilV nilV)
          have HZ := hid (HSZ.out ⟨3, t, cc, [], []⟩ H32.out nilV nilV)
          have HO := hid (mcs_one ⟨3, t, cc, [], []⟩ nilV nilV rfl rfl)
          clear hd1 hd2
          generalize (mcs ⟨3, t, cc, [], []⟩ nilV nilV).toArray = cm at HRUN HS HZ HO HD1 HD2 HM9
          go_wp2_with (first | (refine wpList_load_run rfl 28 _ rfl _ _ rfl HRUN.out ?_) | ((refine wpList_store_blk rfl 28 _ _ rfl w.heap.size _ rfl rfl 28 _ HM9.out.bR HS.out HZ.out HO.out ?_); refine Held.go ?_))
          have HF := hid (HM9.out.bF.grown (grown_setRow w9 w.heap.size cm) (by simp))
          unfold Held
          go_wp2_with ((refine wpList_store_blk rfl 43 _ _ rfl (w.heap.size + 1) _ rfl rfl 43 _ HF.out (size_fault _ rfl) rfl rfl ?_); refine Held.go ?_)
          unfold Held
          go_wp2_with fail
          exact bodyPost_ret (HD1.out _ rfl rfl) rfl HD2.out
        · have hmost' : ¬ (16 : Int) < (n5 : Int) := by omega
          have hn5 : n5 ≤ 16 := by omega
          have HE := hid (show MR = (⟨3, t, cc, (dscN bs n5 s5).1, []⟩, (dscN bs n5 s5).2, (0, 0)) from by rw [HRT.out, if_neg hmost])
          clear HRT hmost HAT hr1 hr0 hln
          go_wp2_with fail
          go_loopw [10, 11] (fun v10 v11 wr => ∃ (k : Nat), v11 = .int .i64 (k : Int) ∧ k ≤ n5 ∧ Hid (OwnD wr (w.heap.size + 3) v10 (dscN bs k s5).1) ∧ Hid (Md3 w wr g B c A bs (dscN bs k s5).2 zd #[.int .i64 0, .int .i64 0] (mcs ⟨3, t, cc, [], []⟩ nilV nilV).toArray)) (fun _ v11 _ => n5 - (intOf v11).toNat)
          case atStart => exact ⟨0, rfl, Nat.zero_le _, hid (OwnD.nil _ _), HM9⟩
          case round =>
            clear HM9
            obtain ⟨k, rfl, hk, HO, HM⟩ := hrel
            by_cases hlt : k < n5
            · have hlt' : (k : Int) < (n5 : Int) := by omega
              have HC := hid (refReads_calls g B c A bs (dscN bs k s5).2 wr HM.out.src)
              have HLEN := hid (dscN_length bs k s5)
              have HST := hid (show (dscN bs (k + 1) s5).1.flatMap dcs = (dscN bs k s5).1.flatMap dcs ++ dcs (dscR bs (dscN bs k s5).2).1 ∧ (dscN bs (k + 1) s5).1.length = (dscN bs k s5).1.length + 1 ∧ (dscN bs (k + 1) s5).2 = (dscR bs (dscN bs k s5).2).2 from ⟨by simp [dscN], by simp [dscN], rfl⟩)
              have H32' := hid (dscR_id bs (dscN bs k s5).2)
              generalize dscN bs k s5 = DN at HO HM HC HLEN HST H32'
              generalize dscR bs DN.2 = DR at HC HST H32'
              have HONE := hid (dcs_one DR.1)
              go_wp2_with fail
              refine HC.out.mono ?_
              rintro _ w1 ⟨rfl, hp⟩
              have HM1 := hid (HM.out.call hp)
              have HO1 := hid (HO.out.chg hp.2 (fun b e hm => by have := (World.ownsRow.lt HO.out b e).1; have := HM.out.lt; simp at hm; omega))
              clear hp HC HO HM
              have HBS := hid (run_bs1 (dcs DR.1) (dcs_length H32'.out))
              have HNEW := hid (fun (W : World) => (fun j u hu => by rw [Addr.add_lit, Nat.zero_add]; exact (Blk.new W 25 (dcs DR.1).toArray).cell j (by rw [List.getElem?_toArray]; exact hu) : ∀ (j : Nat) u, (dcs DR.1)[j]? = some u → (W.alloc (.cells (dcs DR.1).toArray 25)).cell? ((⟨W.heap.size, 0, none⟩ : Addr).add j) = some u))
              have HLL := hid (show (dcs DR.1).length = 1 * 35 from by rw [dcs_length H32'.out])
              generalize dcs DR.1 = dl at HBS HNEW HLL HONE HST ⊢
              go_wp2_with (first | (refine wpList_bs1 rfl 26 (.tmp 58) rfl (.agg dl.toArray) (.slice (some ⟨w1.heap.size, 0, none⟩) 1 1) rfl (HBS.out w1) ?_) | (at_builtin; refine Held.go ?_))
              have hbn := below_new w1 (.cells dl.toArray 25)
              have hone := HNEW.out w1
              generalize w1.alloc (.cells dl.toArray 25) = w2 at hbn hone ⊢
              have HO2 := hid (HO1.out.keep hbn)
              have HM2 := hid (HM1.out.keep hbn)
              obtain ⟨i0, hi, hz0, hz1, hz2⟩ := info_parts infoDD
              refine wpList_append_own_at w2 rfl _ _ 26 rfl (w.heap.size + 3) 25 i0 _ 35 64 Try.underlying26 hi hz0 hz1 hz2 rfl (by omega) u10 DN.1.length (DN.1.flatMap dcs) rfl HO2.out ⟨w1.heap.size, 0, none⟩ 1 1 dl rfl HLL.out hone HONE.out (by have := HLEN.out; simp [maxLen]; omega) (by have := HLEN.out; omega) HM2.out.bD.lt ?_
              intro v8 w8 h8 hg8 _ hm8
              have HO8 := hid (show OwnD w8 (w.heap.size + 3) v8 (dscN bs (k + 1) s5).1 from by
                obtain ⟨e1, e2, -⟩ := HST.out
                unfold OwnD
                rw [e1, e2]; exact h8)
              have HM8 := hid (show Md3 w w8 g B c A bs (dscN bs (k + 1) s5).2 zd #[.int .i64 0, .int .i64 0] (mcs ⟨3, t, cc, [], []⟩ nilV nilV).toArray from by
                obtain ⟨-, -, e3⟩ := HST.out
                rw [e3]
                exact HM2.out.high (Chg.of_grown (L := u10.ownBlock.toList) hg8 (fun g e => by rw [e]; simp)) (fun b hm => by
                  rw [Option.mem_toList] at hm
                  exact (World.ownsRow.lt HO2.out b hm).1))
              clear h8 hg8 hm8 hone hbn hi hz0 hz1 hz2 HO1 HM1 HO2 HM2 HNEW HBS HLL HONE HST
              go_wp2_with fail
              go_roundw
              case rel => exact ⟨k + 1, by go_num, by omega, HO8, HM8⟩
              case measure => simp [intOf]; omega
            · obtain rfl : k = n5 := by omega
              have HLEN := hid (dscN_length bs k s5)
              generalize dscN bs k s5 = DN at HO HM HE HLEN
              obtain ⟨Av, nv, cv, rfl⟩ := HO.out.form
              have d38 := HM.out.bD.cell 38 (by rw [List.getElem?_toArray]; exact mcs_38 H32.out _ _)
              have f38 := HM.out.bD.frozen 38
              have HM1 := hid (show Md3 w (wr.setCell ⟨w.heap.size + 2, 38, none⟩ (.slice Av nv cv)) g B c A bs DN.2 zd #[.int .i64 0, .int .i64 0] (mcs ⟨3, t, cc, [], []⟩ nilV (.slice Av nv cv)).toArray from
                HM.out.upd (chg_set (L := [w.heap.size + 2]) (by simp) 38 _) (by have := HM.out.bD.set_ 38 (.slice Av nv cv); rw [mcs_set38 H32.out] at this; exact this))
              have HO1 := hid (HO.out.chg (chg_set (w := wr) (d := w.heap.size + 2) (L := [w.heap.size + 2]) (by simp) 38 (.slice Av nv cv)) (fun b e hm => by have := (World.ownsRow.lt HO.out b e).1; simp at hm; omega))
              have e0 := HM1.out.bD.cell 0 (by rw [List.getElem?_toArray]; exact mcs_0 _ _ _)
              dsimp only at e0
              generalize hw10 : wr.setCell ⟨w.heap.size + 2, 38, none⟩ (.slice Av nv cv) = w10 at HM1 HO1 e0
              clear HO HM
              have d37 := HM1.out.bD.cell 37 (by rw [List.getElem?_toArray]; exact mcs_37 H32.out _ _)
              have f37 := HM1.out.bD.frozen 37
              have HM2 := hid (show Md3 w (w10.setCell ⟨w.heap.size + 2, 37, none⟩ (.slice Av nv cv)) g B c A bs DN.2 zd #[.int .i64 0, .int .i64 0] (mcs ⟨3, t, cc, [], []⟩ (.slice Av nv cv) (.slice Av nv cv)).toArray from
                HM1.out.upd (chg_set (L := [w.heap.size + 2]) (by simp) 37 _) (by have := HM1.out.bD.set_ 37 (.slice Av nv cv); rw [mcs_set37 H32.out] at this; exact this))
              have HO2 := hid (HO1.out.chg (chg_set (w := w10) (d := w.heap.size + 2) (L := [w.heap.size + 2]) (by simp) 37 (.slice Av nv cv)) (fun b e hm => by have := (World.ownsRow.lt HO1.out b e).1; simp at hm; omega))
              have e38 := HM2.out.bD.cell 38 (by rw [List.getElem?_toArray]; exact mcs_38 H32.out _ _)
              have g38 := HM2.out.bD.frozen 38
              generalize hw11 : w10.setCell ⟨w.heap.size + 2, 37, none⟩ (.slice Av nv cv) = w11 at HM2 HO2 e38 g38
              have HM3 := hid (show Md3 w (w11.setCell ⟨w.heap.size + 2, 38, none⟩ (.slice none 0 0)) g B c A bs DN.2 zd #[.int .i64 0, .int .i64 0] (mcs ⟨3, t, cc, [], []⟩ (.slice Av nv cv) nilV).toArray from
                HM2.out.upd (chg_set (L := [w.heap.size + 2]) (by simp) 38 _) (by have := HM2.out.bD.set_ 38 (.slice none 0 0); rw [mcs_set38 H32.out] at this; exact this))
              have HO3 := hid (HO2.out.chg (chg_set (w := w11) (d := w.heap.size + 2) (L := [w.heap.size + 2]) (by simp) 38 (.slice none 0 0)) (fun b e hm => by have := (World.ownsRow.lt HO2.out b e).1; simp at hm; omega))
              clear HM1 HO1 HM2 HO2
              generalize hw12 : w11.setCell ⟨w.heap.size + 2, 38, none⟩ (.slice none 0 0) = w12 at HM3 HO3
              obtain ⟨hd1, hd2⟩ := Md3.done (m := ⟨3, t, cc, DN.1, []⟩) HM3.out HE.out HO3.out (OwnD.nil _ _)
              have HD1 := hid hd1; have HD2 := hid hd2
              have HRUN := hid (HM3.out.run (HSA.out ⟨3, t, cc, [], []⟩ H32.out _ _))
              have HS := hid (HSA.out ⟨3, t, cc, [], []⟩ H32.out (.slice Av nv cv) nilV)
              have HZ := hid (HSZ.out ⟨3, t, cc, [], []⟩ H32.out (.slice Av nv cv) nilV)
              have HO := hid (mcs_one ⟨3, t, cc, [], []⟩ (.slice Av nv cv) nilV rfl rfl)
              clear hd1 hd2 HO3
              rw [show (mcs ⟨3, t, cc, DN.1, []⟩ (.slice Av nv cv) nilV).toArray = (mcs ⟨3, t, cc, [], []⟩ (.slice Av nv cv) nilV).toArray from rfl] at HD1 HD2
              generalize (mcs ⟨3, t, cc, [], []⟩ (.slice Av nv cv) nilV).toArray = cm at HRUN HS HZ HO HD1 HD2 HM3
              have HB := hid HM3.out.bR
              have HF := hid (HM3.out.bF.grown (grown_setRow w12 w.heap.size cm) (by simp))
              clear HM3
              go_wp2_with (first | (refine wpList_load_run rfl 28 _ rfl _ _ rfl HRUN.out ?_) | ((refine wpList_store_blk rfl 28 _ _ rfl w.heap.size _ rfl rfl 28 _ HB.out HS.out HZ.out HO.out ?_); refine Held.go ?_))
              clear hw10 hw11 hw12 e0 d38 f38 d37 f37 e38 g38
              unfold Held
              go_wp2_with ((refine wpList_store_blk rfl 43 _ _ rfl (w.heap.size + 1) _ rfl rfl 43 _ HF.out (size_fault _ rfl) rfl rfl ?_); refine Held.go ?_)
              unfold Held
              go_wp2_with fail
              exact bodyPost_ret (HD1.out _ rfl rfl) rfl HD2.out
        --VED
      · subst hk4
        have HMC := hid (show MR = refT bs 4 8 t zeroD s3 from by
          have h := HMB.out
          unfold refB at h
          rw [if_neg (by decide), HT.out] at h; exact h)
        clear HMB HT
        rw [show ((4 : Nat) : Int) = 4 from rfl] at e0 HM4 hw4 ⊢
        go_wp2_with fail
        clear hw4
        refine (HTX.out w4 HM4.out.src).mono ?_
        rintro _ w5 ⟨rfl, hp⟩
        have HM5 := hid (HM4.out.call hp)
        have d1 := HM5.out.bD.cell 1 (by rw [List.getElem?_toArray]; exact mcs_1 _ _ _)
        have f1 := HM5.out.bD.frozen 1
        dsimp only at d1
        have HM6 := hid (show Md3 w (w5.setCell ⟨w.heap.size + 2, 1, none⟩ (.string (strB t))) g B c A bs s3 zd #[.int .i64 0, .int .i64 0] (mcs ⟨4, t, zeroD, [], []⟩ nilV nilV).toArray from
          HM5.out.upd (chg_set (L := [w.heap.size + 2]) (by simp) 1 _) (by have := HM5.out.bD.set_ 1 (.string (strB t)); rw [mcs_set1] at this; exact this))
        have c0 := HM6.out.bD.cell 0 (by rw [List.getElem?_toArray]; exact mcs_0 _ _ _)
        dsimp only at c0
        generalize strB t = st at HM6 c0 ⊢
        generalize hw6 : w5.setCell ⟨w.heap.size + 2, 1, none⟩ (.string st) = w6 at HM6 c0
        clear hp HTX HM4 HM5 e0 d0 f0
        have H32 := hid zeroD_id
        have HMR := HMC
        have HM7 := HM6
        clear HMC HM6
        generalize zeroD = cc at H32 HMR HM7
        --DEV
        have HRT := hid (show MR = if 8 < (numS bs maxI 0 s3).1 then (⟨4, t, cc, [], []⟩, (numS bs maxI 0 s3).2, (4, bs.length - restS bs s3)) else (⟨4, t, cc, [], (dscN bs (numS bs maxI 0 s3).1 (numS bs maxI 0 s3).2).1⟩, (dscN bs (numS bs maxI 0 s3).1 (numS bs maxI 0 s3).2).2, (0, 0)) from by rw [HMR.out]; rfl)
        clear HMR
        have HRS := hid (refRest g B c A bs s3 w6 HM7.out.src)
        have HN5 := hid (fun W (h : RfB W g B c A bs s3) => refRNum_calls g B c A bs s3 W h)
        generalize numS bs maxI 0 s3 = q5 at HRT HN5
        obtain ⟨n5, s5⟩ := q5
        have hrl := restS_le bs s3
        have hln : (bs.length : Int) ≤ 549755813888 := by have := HM7.out.src.1; obtain ⟨_, h⟩ := this; have := h.2.2.2.2.1; omega
        have HAT := hid (show (bs.length : Int) - (restS bs s3 : Int) = ((bs.length - restS bs s3 : Nat) : Int) from by omega)
        have hr1 : (restS bs s3 : Int) ≤ (bs.length : Int) := by omega
        have hr0 : (0 : Int) ≤ (restS bs s3 : Int) := by omega
        generalize bs.length - restS bs s3 = at_ at HAT HRT
        generalize restS bs s3 = rs at HRS HAT hr1 hr0
        generalize bs.length = L at HAT hln hr1 ⊢
        clear hrl
        go_wp2_with fail
        clear hw6 d1 f1 c0
        refine HRS.out.mono ?_
        rintro _ w8 ⟨rfl, hb8⟩
        have HM8 := hid (HM7.out.keep hb8)
        clear hb8 HRS HM7
        go_wp2_with fail
        rw [HAT.out]
        refine (HN5.out w8 HM8.out.src).mono ?_
        rintro _ w9 ⟨rfl, hp⟩
        have HM9 := hid (HM8.out.call hp)
        clear hp HN5 HM8
        dsimp only at HRT HM9 ⊢
        by_cases hmost : 8 < n5
        · have hmost' : (8 : Int) < (n5 : Int) := by omega
          have HE := hid (show MR = (⟨4, t, cc, [], []⟩, s5, (4, at_)) from by rw [HRT.out, if_pos hmost])
          clear HRT hmost HAT hr1 hr0 hln
          obtain ⟨hd1, hd2⟩ := HM9.out.done HE.out (OwnD.nil _ _) (OwnD.nil _ _)
          have HD1 := hid hd1; have HD2 := hid hd2
          have HRUN := hid (HM9.out.run (HSA.out _ H32.out _ _))
          have HS := hid (HSA.out ⟨4, t, cc, [], []⟩ H32.out nilV nilV)
          have HZ := hid (HSZ.out ⟨4, t, cc, [], []⟩ H32.out nilV nilV)
          have HO := hid (mcs_one ⟨4, t, cc, [], []⟩ nilV nilV rfl rfl)
          clear hd1 hd2
          generalize (mcs ⟨4, t, cc, [], []⟩ nilV nilV).toArray = cm at HRUN HS HZ HO HD1 HD2 HM9
          go_wp2_with (first | (refine wpList_load_run rfl 28 _ rfl _ _ rfl HRUN.out ?_) | ((refine wpList_store_blk rfl 28 _ _ rfl w.heap.size _ rfl rfl 28 _ HM9.out.bR HS.out HZ.out HO.out ?_); refine Held.go ?_))
          have HF := hid (HM9.out.bF.grown (grown_setRow w9 w.heap.size cm) (by simp))
          unfold Held
          go_wp2_with ((refine wpList_store_blk rfl 43 _ _ rfl (w.heap.size + 1) _ rfl rfl 43 _ HF.out (size_fault _ rfl) rfl rfl ?_); refine Held.go ?_)
          unfold Held
          go_wp2_with fail
          exact bodyPost_ret (HD1.out _ rfl rfl) rfl HD2.out
        · have hmost' : ¬ (8 : Int) < (n5 : Int) := by omega
          have hn5 : n5 ≤ 8 := by omega
          have HE := hid (show MR = (⟨4, t, cc, [], (dscN bs n5 s5).1⟩, (dscN bs n5 s5).2, (0, 0)) from by rw [HRT.out, if_neg hmost])
          clear HRT hmost HAT hr1 hr0 hln
          go_wp2_with fail
          go_loopw [10, 11] (fun v10 v11 wr => ∃ (k : Nat), v11 = .int .i64 (k : Int) ∧ k ≤ n5 ∧ Hid (OwnD wr (w.heap.size + 3) v10 (dscN bs k s5).1) ∧ Hid (Md3 w wr g B c A bs (dscN bs k s5).2 zd #[.int .i64 0, .int .i64 0] (mcs ⟨4, t, cc, [], []⟩ nilV nilV).toArray)) (fun _ v11 _ => n5 - (intOf v11).toNat)
          case atStart => exact ⟨0, rfl, Nat.zero_le _, hid (OwnD.nil _ _), HM9⟩
          case round =>
            clear HM9
            obtain ⟨k, rfl, hk, HO, HM⟩ := hrel
            by_cases hlt : k < n5
            · have hlt' : (k : Int) < (n5 : Int) := by omega
              have HC := hid (refReads_calls g B c A bs (dscN bs k s5).2 wr HM.out.src)
              have HLEN := hid (dscN_length bs k s5)
              have HST := hid (show (dscN bs (k + 1) s5).1.flatMap dcs = (dscN bs k s5).1.flatMap dcs ++ dcs (dscR bs (dscN bs k s5).2).1 ∧ (dscN bs (k + 1) s5).1.length = (dscN bs k s5).1.length + 1 ∧ (dscN bs (k + 1) s5).2 = (dscR bs (dscN bs k s5).2).2 from ⟨by simp [dscN], by simp [dscN], rfl⟩)
              have H32' := hid (dscR_id bs (dscN bs k s5).2)
              generalize dscN bs k s5 = DN at HO HM HC HLEN HST H32'
              generalize dscR bs DN.2 = DR at HC HST H32'
              have HONE := hid (dcs_one DR.1)
              go_wp2_with fail
              refine HC.out.mono ?_
              rintro _ w1 ⟨rfl, hp⟩
              have HM1 := hid (HM.out.call hp)
              have HO1 := hid (HO.out.chg hp.2 (fun b e hm => by have := (World.ownsRow.lt HO.out b e).1; have := HM.out.lt; simp at hm; omega))
              clear hp HC HO HM
              have HBS := hid (run_bs1 (dcs DR.1) (dcs_length H32'.out))
              have HNEW := hid (fun (W : World) => (fun j u hu => by rw [Addr.add_lit, Nat.zero_add]; exact (Blk.new W 25 (dcs DR.1).toArray).cell j (by rw [List.getElem?_toArray]; exact hu) : ∀ (j : Nat) u, (dcs DR.1)[j]? = some u → (W.alloc (.cells (dcs DR.1).toArray 25)).cell? ((⟨W.heap.size, 0, none⟩ : Addr).add j) = some u))
              have HLL := hid (show (dcs DR.1).length = 1 * 35 from by rw [dcs_length H32'.out])
              generalize dcs DR.1 = dl at HBS HNEW HLL HONE HST ⊢
              go_wp2_with (first | (refine wpList_bs1 rfl 26 (.tmp 58) rfl (.agg dl.toArray) (.slice (some ⟨w1.heap.size, 0, none⟩) 1 1) rfl (HBS.out w1) ?_) | (at_builtin; refine Held.go ?_))
              have hbn := below_new w1 (.cells dl.toArray 25)
              have hone := HNEW.out w1
              generalize w1.alloc (.cells dl.toArray 25) = w2 at hbn hone ⊢
              have HO2 := hid (HO1.out.keep hbn)
              have HM2 := hid (HM1.out.keep hbn)
              obtain ⟨i0, hi, hz0, hz1, hz2⟩ := info_parts infoDD
              refine wpList_append_own_at w2 rfl _ _ 26 rfl (w.heap.size + 3) 25 i0 _ 35 64 Try.underlying26 hi hz0 hz1 hz2 rfl (by omega) u10 DN.1.length (DN.1.flatMap dcs) rfl HO2.out ⟨w1.heap.size, 0, none⟩ 1 1 dl rfl HLL.out hone HONE.out (by have := HLEN.out; simp [maxLen]; omega) (by have := HLEN.out; omega) HM2.out.bD.lt ?_
              intro v8 w8 h8 hg8 _ hm8
              have HO8 := hid (show OwnD w8 (w.heap.size + 3) v8 (dscN bs (k + 1) s5).1 from by
                obtain ⟨e1, e2, -⟩ := HST.out
                unfold OwnD
                rw [e1, e2]; exact h8)
              have HM8 := hid (show Md3 w w8 g B c A bs (dscN bs (k + 1) s5).2 zd #[.int .i64 0, .int .i64 0] (mcs ⟨4, t, cc, [], []⟩ nilV nilV).toArray from by
                obtain ⟨-, -, e3⟩ := HST.out
                rw [e3]
                exact HM2.out.high (Chg.of_grown (L := u10.ownBlock.toList) hg8 (fun g e => by rw [e]; simp)) (fun b hm => by
                  rw [Option.mem_toList] at hm
                  exact (World.ownsRow.lt HO2.out b hm).1))
              clear h8 hg8 hm8 hone hbn hi hz0 hz1 hz2 HO1 HM1 HO2 HM2 HNEW HBS HLL HONE HST
              go_wp2_with fail
              go_roundw
              case rel => exact ⟨k + 1, by go_num, by omega, HO8, HM8⟩
              case measure => simp [intOf]; omega
            · obtain rfl : k = n5 := by omega
              have HLEN := hid (dscN_length bs k s5)
              generalize dscN bs k s5 = DN at HO HM HE HLEN
              obtain ⟨Av, nv, cv, rfl⟩ := HO.out.form
              have d38 := HM.out.bD.cell 38 (by rw [List.getElem?_toArray]; exact mcs_38 H32.out _ _)
              have f38 := HM.out.bD.frozen 38
              have HM1 := hid (show Md3 w (wr.setCell ⟨w.heap.size + 2, 38, none⟩ (.slice Av nv cv)) g B c A bs DN.2 zd #[.int .i64 0, .int .i64 0] (mcs ⟨4, t, cc, [], []⟩ nilV (.slice Av nv cv)).toArray from
                HM.out.upd (chg_set (L := [w.heap.size + 2]) (by simp) 38 _) (by have := HM.out.bD.set_ 38 (.slice Av nv cv); rw [mcs_set38 H32.out] at this; exact this))
              have HO1 := hid (HO.out.chg (chg_set (w := wr) (d := w.heap.size + 2) (L := [w.heap.size + 2]) (by simp) 38 (.slice Av nv cv)) (fun b e hm => by have := (World.ownsRow.lt HO.out b e).1; simp at hm; omega))
              have e0 := HM1.out.bD.cell 0 (by rw [List.getElem?_toArray]; exact mcs_0 _ _ _)
              dsimp only at e0
              generalize hw10 : wr.setCell ⟨w.heap.size + 2, 38, none⟩ (.slice Av nv cv) = w10 at HM1 HO1 e0
              clear HO HM
              obtain ⟨hd1, hd2⟩ := Md3.done (m := ⟨4, t, cc, [], DN.1⟩) HM1.out HE.out (OwnD.nil _ _) HO1.out
              have HD1 := hid hd1; have HD2 := hid hd2
              have HRUN := hid (HM1.out.run (HSA.out ⟨4, t, cc, [], []⟩ H32.out _ _))
              have HS := hid (HSA.out ⟨4, t, cc, [], []⟩ H32.out nilV (.slice Av nv cv))
              have HZ := hid (HSZ.out ⟨4, t, cc, [], []⟩ H32.out nilV (.slice Av nv cv))
              have HO := hid (mcs_one ⟨4, t, cc, [], []⟩ nilV (.slice Av nv cv) rfl rfl)
              clear hd1 hd2 HO1
              rw [show (mcs ⟨4, t, cc, [], DN.1⟩ nilV (.slice Av nv cv)).toArray = (mcs ⟨4, t, cc, [], []⟩ nilV (.slice Av nv cv)).toArray from rfl] at HD1 HD2
              generalize (mcs ⟨4, t, cc, [], []⟩ nilV (.slice Av nv cv)).toArray = cm at HRUN HS HZ HO HD1 HD2 HM1
              have HB := hid HM1.out.bR
              have HF := hid (HM1.out.bF.grown (grown_setRow w10 w.heap.size cm) (by simp))
              clear HM1
              go_wp2_with (first | (refine wpList_load_run rfl 28 _ rfl _ _ rfl HRUN.out ?_) | ((refine wpList_store_blk rfl 28 _ _ rfl w.heap.size _ rfl rfl 28 _ HB.out HS.out HZ.out HO.out ?_); refine Held.go ?_))
              clear hw10 e0 d38 f38
              unfold Held
              go_wp2_with ((refine wpList_store_blk rfl 43 _ _ rfl (w.heap.size + 1) _ rfl rfl 43 _ HF.out (size_fault _ rfl) rfl rfl ?_); refine Held.go ?_)
              unfold Held
              go_wp2_with fail
              exact bodyPost_ret (HD1.out _ rfl rfl) rfl HD2.out
        --VED
    · have hk3 : ¬ (k : Int) = 3 := by omega
      have hk4 : ¬ (k : Int) = 4 := by omega
      have HE := hid (show MR = (⟨(k : Int), [], zeroD, [], []⟩, s2, (20, 0)) from by rw [HMR.out]; exact if_neg hk)
      clear HMR
      obtain ⟨hd1, hd2⟩ := Md3.done (m := ⟨(k : Int), [], zeroD, [], []⟩) HM4.out HE.out (OwnD.nil _ _) (OwnD.nil _ _)
      have HD1 := hid hd1; have HD2 := hid hd2
      have HRUN := hid (HM4.out.run (HSA.out ⟨(k : Int), [], zeroD, [], []⟩ hz32 _ _))
      have HS := hid (HSA.out ⟨(k : Int), [], zeroD, [], []⟩ hz32 nilV nilV)
      have HZ := hid (HSZ.out ⟨(k : Int), [], zeroD, [], []⟩ hz32 nilV nilV)
      have HO := hid (mcs_one ⟨(k : Int), [], zeroD, [], []⟩ nilV nilV rfl rfl)
      clear hd1 hd2
      generalize (mcs ⟨(k : Int), [], zeroD, [], []⟩ nilV nilV).toArray = cm at HRUN HS HZ HO HD1 HD2 HM4
      have HB := hid HM4.out.bR
      have HF := hid (HM4.out.bF.grown (grown_setRow w4 w.heap.size cm) (by simp))
      clear HM4
      generalize (k : Int) = zk at hk3 hk4 e0 hw4 ⊢
      have hk3' : (zk != 3) = true := by simpa using hk3
      have hk4' : (zk != 4) = true := by simpa using hk4
      go_wp2_with (first | (refine wpList_load_run rfl 28 _ rfl _ _ rfl HRUN.out ?_) | ((refine wpList_store_blk rfl 28 _ _ rfl w.heap.size _ rfl rfl 28 _ HB.out HS.out HZ.out HO.out ?_); refine Held.go ?_))
      clear hw4 e0 d0 f0
      unfold Held
      go_wp2_with ((refine wpList_store_blk rfl 43 _ _ rfl (w.heap.size + 1) _ rfl rfl 43 _ HF.out (size_fault _ rfl) rfl rfl ?_); refine Held.go ?_)
      unfold Held
      go_wp2_with fail
      exact bodyPost_ret (HD1.out _ rfl rfl) rfl HD2.out
  · have h77' : ¬ (n1 : Int) = 77 := by omega
    have HE := hid (show MR = (zeroM, s1, (20, 0)) from by rw [HR.out]; exact if_neg h77)
    obtain ⟨hd1, hd2⟩ := Md3.done (k := 0) (t := []) (cc := zeroD) (l := []) (u := []) (m := zeroM) HM2.out HE.out (OwnD.nil _ _) (OwnD.nil _ _)
    have HD1 := hid hd1; have HD2 := hid hd2
    have HRUN := hid (HM2.out.run (HSA.out zeroM hz32 _ _))
    have HS := hid (HSA.out zeroM hz32 nilV nilV)
    have HZ := hid (HSZ.out zeroM hz32 nilV nilV)
    have HO := hid (mcs_one zeroM nilV nilV rfl rfl)
    clear hd1 hd2 HR h77
    generalize (mcs zeroM nilV nilV).toArray = cm at HRUN HS HZ HO HD1 HD2 HM2
    have HB := hid HM2.out.bR
    have HF := hid (HM2.out.bF.grown (grown_setRow w2 w.heap.size cm) (by simp))
    clear HM2
    generalize (n1 : Int) = zk at h77' ⊢
    go_wp2_with (first | (refine wpList_load_run rfl 28 _ rfl _ _ rfl HRUN.out ?_) | ((refine wpList_store_blk rfl 28 _ _ rfl w.heap.size _ rfl rfl 28 _ HB.out HS.out HZ.out HO.out ?_); refine Held.go ?_))
    unfold Held
    go_wp2_with ((refine wpList_store_blk rfl 43 _ _ rfl (w.heap.size + 1) _ rfl rfl 43 _ HF.out (size_fault _ rfl) rfl rfl ?_); refine Held.go ?_)
    unfold Held
    go_wp2_with fail
    exact bodyPost_ret (HD1.out _ rfl rfl) rfl HD2.out
end Go.Proofs.Ytljnpaikjljmbaa
/- Contract of the document's side: Decode. -/
namespace Go.Proofs.Ytljnpaikjljmbaa
open Go.RowKit

def DecQ (w : World) (bs : List UInt8) (e : Ending) (w' : World) : Prop :=
  ∃ v1 v2, e = .returned (.tuple #[.agg (mcs (decM bs) v1 v2).toArray, fltV (decF bs)]) ∧ OwnD w' w.heap.size v1 (decM bs).l ∧ OwnD w' w.heap.size v2 (decM bs).u ∧ Below w.heap.size w w'
/-- what Decode has in memory behind its reading -/
structure DcU (w W : World) (R M E : Nat) (zd cm : Array Value) (x y e1 e2 : Int) (v1 v2 : Value) (l u : List DD) : Prop where
  r2 : Res2 w W R zd #[.int .i64 0, .int .i64 0]
  bM : Blk W M 28 cm
  bF : Blk W (M + 1) 43 #[.int .i64 x, .int .i64 y]
  bE : Blk W E 43 #[.int .i64 e1, .int .i64 e2]
  hM : R + 2 ≤ M
  hE : M + 1 < E
  o1 : OwnD W (R + 2) v1 l
  o2 : OwnD W (R + 2) v2 u
theorem Res2.retR {w W : World} {R : Nat} {c0 : Array Value} {x y : Int} (h : Res2 w W R c0 #[.int .i64 x, .int .i64 y]) (hsz : c0.size = 39) (tmps : Array Value) (h2 : tmps.getD 2 undef = .pointer (some ⟨R, 0, none⟩)) (h3 : tmps.getD 3 undef = .pointer (some ⟨R + 1, 0, none⟩)) :
    (results Try.f21 tmps).run Try.prog W = .ok (.tuple #[.agg c0, .agg #[.int .i64 x, .int .i64 y]]) W :=
  results_cells2 rfl tmps W _ _ _ _ h2 h3 (run_loadVar_row W R _ _ _ (0, 0) _ h.b0 Try.underlying28 rfl (by rw [hsz]; kernel_rfl)) (run_loadVar_row W (R + 1) _ _ _ (0, 0) _ h.b1 Try.underlying43 rfl (size_fault _ rfl))
/-- the last region: both results are written -/
structure DcT (w : World) (R M G : Nat) (zd cM cm : Array Value) (X Y : Int) (v1 v2 : Value) (l u : List DD) (f : Nat → Bool) (_gh : Nat → Value) (W : World) : Prop where
  hR : w.heap.size = R
  bel : Below w.heap.size w W
  b0 : Blk W R 28 (if f 2 = true then cm else zd)
  b1 : Blk W (R + 1) 43 (if f 3 = true then #[.int .i64 X, .int .i64 Y] else #[.int .i64 0, .int .i64 0])
  bG : Blk W G 43 #[.int .i64 X, .int .i64 Y]
  bM : Blk W M 28 cM
  hG : R + 2 ≤ G
  hM : R + 2 ≤ M
  o1 : OwnD W (R + 2) v1 l
  o2 : OwnD W (R + 2) v2 u
section
variable {w W : World} {R M G : Nat} {zd cM cm : Array Value} {X Y : Int} {v1 v2 : Value} {l u : List DD} {f : Nat → Bool} {gh gh' : Nat → Value}
theorem DcT.step (h : DcT w R M G zd cM cm X Y v1 v2 l u f gh W) (i : Nat) (h2 : 2 ≠ i) (h3 : 3 ≠ i) : DcT w R M G zd cM cm X Y v1 v2 l u (upd f i) gh' W :=
  ⟨h.hR, h.bel, by rw [ap_ne h2]; exact h.b0, by rw [ap_ne h3]; exact h.b1, h.bG, h.bM, h.hG, h.hM, h.o1, h.o2⟩
theorem DcT.store0 (h : DcT w R M G zd cM cm X Y v1 v2 l u f gh W) : DcT w R M G zd cM cm X Y v1 v2 l u (upd f 2) gh' (W.setRow R cm) := by
  have hc := chg_row W R cm
  have hG := h.hG; have hM := h.hM; have hR := h.hR
  refine ⟨h.hR, h.bel.trans (hc.below (fun b hb => by simp at hb; omega) h.bel.size), by rw [ap_eq, if_pos rfl]; exact h.b0.setRow cm, by rw [ap_ne (by decide)]; exact h.b1.chg hc (by simp), h.bG.chg hc (by simp; omega), h.bM.chg hc (by simp; omega), h.hG, h.hM, h.o1.chg hc (fun b e hm => by have := (World.ownsRow.lt h.o1 b e).1; simp at hm; omega), h.o2.chg hc (fun b e hm => by have := (World.ownsRow.lt h.o2 b e).1; simp at hm; omega)⟩
theorem DcT.store1 (h : DcT w R M G zd cM cm X Y v1 v2 l u f gh W) : DcT w R M G zd cM cm X Y v1 v2 l u (upd f 3) gh' (W.setRow (R + 1) #[.int .i64 X, .int .i64 Y]) := by
  have hc := chg_row W (R + 1) #[.int .i64 X, .int .i64 Y]
  have hG := h.hG; have hM := h.hM; have hR := h.hR
  refine ⟨h.hR, h.bel.trans (hc.below (fun b hb => by simp at hb; omega) h.bel.size), by rw [ap_ne (by decide)]; exact h.b0.chg hc (by simp), by rw [ap_eq, if_pos rfl]; exact h.b1.setRow _, h.bG.chg hc (by simp; omega), h.bM.chg hc (by simp; omega), h.hG, h.hM, h.o1.chg hc (fun b e hm => by have := (World.ownsRow.lt h.o1 b e).1; simp at hm; omega), h.o2.chg hc (fun b e hm => by have := (World.ownsRow.lt h.o2 b e).1; simp at hm; omega)⟩
theorem DcT.res (h : DcT w R M G zd cM cm X Y v1 v2 l u f gh W) (h2 : f 2 = true) (h3 : f 3 = true) : Res2 w W R cm #[.int .i64 X, .int .i64 Y] :=
  ⟨h.hR, by have := h.b0; rwa [if_pos h2] at this, by have := h.b1; rwa [if_pos h3] at this, h.bel⟩
end
def dtVal (cm : Array Value) (x y : Int) : Nat → Value → Value
  | 0, _ => .agg cm
  | 1, _ => .agg #[.int .i64 x, .int .i64 y]
  | _, k => k
section
variable {w W W' : World} {R M E : Nat} {zd cm : Array Value} {x y e1 e2 : Int} {v1 v2 : Value} {l u : List DD}
theorem DcU.keep (h : DcU w W R M E zd cm x y e1 e2 v1 v2 l u) (hb : Below W.heap.size W W') : DcU w W' R M E zd cm x y e1 e2 v1 v2 l u :=
  ⟨h.r2.keep hb, h.bM.keep hb, h.bF.keep hb, h.bE.keep hb, h.hM, h.hE, h.o1.keep hb, h.o2.keep hb⟩
/-- the fault is written over -/
theorem DcU.over {k : Value} (h : DcU w W R M E zd cm x y e1 e2 v1 v2 l u) (_hk : k = k) (hO : ∀ b, v1.ownBlock = some b ∨ v2.ownBlock = some b → b ≠ M + 1) : DcU w (W.setRow (M + 1) #[.int .i64 e1, .int .i64 e2]) R M E zd cm e1 e2 e1 e2 v1 v2 l u := by
  have hc := chg_row W (M + 1) #[.int .i64 e1, .int .i64 e2]
  have hM := h.hM; have hE := h.hE
  exact ⟨h.r2.chg hc (fun b hb => by simp at hb; omega), h.bM.chg hc (by simp), h.bF.setRow _, h.bE.chg hc (by simp; omega), h.hM, h.hE, h.o1.chg hc (fun b e hm => hO b (.inl e) (by simpa using hm)), h.o2.chg hc (fun b e hm => hO b (.inr e) (by simpa using hm))⟩
theorem DcT.step0 {w W : World} {R M G : Nat} {zd cM cm : Array Value} {X Y : Int} {v1 v2 : Value} {l u : List DD} {f : Nat → Bool} {gh : Nat → Value} (h : DcT w R M G zd cM cm X Y v1 v2 l u f gh W) : DcT w R M G zd cM cm X Y v1 v2 l u f gh W.drew :=
  ⟨h.hR, h.bel.drew, h.b0, h.b1, h.bG, h.bM, h.hG, h.hM, h.o1, h.o2⟩
theorem DcU.last (h : DcU w W R M E zd cm x y e1 e2 v1 v2 l u) (cn : Array Value) : DcT w R M (M + 1) zd cm cn x y v1 v2 l u (fun j => decide (4 ≤ j)) (fun _ => .pointer none) W :=
  ⟨h.r2.hR, h.r2.bel, h.r2.b0, h.r2.b1, h.bF, h.bM, by have := h.hM; omega, h.hM, h.o1, h.o2⟩
end
theorem refF_zero0 {bs : List UInt8} {s : RS} {rf : Nat × Nat} (hg : s.good bs.length) (h : (refF bs s rf).1 = 0) : refF bs s rf = (0, 0) := by
  unfold refF at h ⊢
  split at h
  · rename_i hc
    rw [if_pos hc]
    cases s with
    | ok a =>
      by_cases ha : a < bs.length
      · rw [show endS bs (.ok a) = (4, a) from if_pos ha] at h; cases h
      · exact if_neg ha
    | bad e p => exact absurd h hg.1
  · rename_i hc
    exact absurd (.inr h) hc
set_option maxRecDepth 20000 in
set_option maxHeartbeats 4000000 in
theorem refDecode_calls (B n c : Nat) (A : Option Addr) (bs : List UInt8) (w : World) (hs : SB w B A n bs) (hnc : n ≤ c) (hn : n ≤ 549755813888) :
    Calls Try.prog 21 #[.slice A n c] w (DecQ w bs) := by
  have hz := (zero_of_info infoM).1
  have HR2 := hid (Res2.start w zmc #[.int .i64 0, .int .i64 0])
  have HSA : Hid ((Try.prog.info? 28).map (·.size) = some zmc.size) := size_man (m := zeroM) rfl nilV nilV
  have HOZ : Hid (zmc.toList.all (·.oneCell') = true) := mcs_one zeroM nilV nilV rfl rfl
  have hBT := show Try.prog.built 28 [] = some zmc from by kernel_rfl
  have HZS := hid (show zmc.size = 39 from rfl)
  have HBAD := hid (show ∀ F : Nat × Nat, decF bs = F → F.1 ≠ 0 → ∀ W', Below w.heap.size w W' → DecQ w bs (.returned (.tuple #[.agg zmc, .agg #[.int .i64 (F.1 : Int), .int .i64 (F.2 : Int)]])) W' from fun F hF h0 W' h => by
    have hM : decM bs = zeroM := if_neg (by rw [hF]; exact h0)
    refine ⟨nilV, nilV, ?_, ?_, ?_, h⟩
    · rw [hM, hF]; rfl
    · rw [hM]; exact OwnD.nil _ _
    · rw [hM]; exact OwnD.nil _ _)
  have hlen := hs.1
  by_cases hlong : 4096 < n
  · have hF : decF bs = (4, 4096) := if_pos (by omega)
    have HFIN := hid (HBAD.out (4, 4096) hF (by simp))
    have hn' : (4096 : Int) < (n : Int) := by omega
    generalize DecQ w bs = Q at HFIN ⊢
    generalize zmc = zd at hz HSA HOZ hBT HFIN HR2 HZS
    clear HBAD hF hs hlen
    go_enter Try.func21, Try.ntmps21
    go_wp2_with ((refine wpList_store_blk rfl 28 _ _ rfl w.heap.size _ rfl rfl 28 _ HR2.out.b0 HSA.out rfl HOZ.out ?_); refine Held.go ?_)
    have HR3 := hid (HR2.out.set0 zd)
    generalize ((w.alloc (.cells zd 28)).alloc (.cells #[.int .i64 0, .int .i64 0] 43)).setRow w.heap.size zd = w1 at HR3 ⊢
    have d0 := HR3.out.b1.cell 0 rfl
    have d1 := HR3.out.b1.cell 1 rfl
    have f0 := HR3.out.b1.frozen 0
    have f1 := HR3.out.b1.frozen 1
    have HR4 := hid (HR3.out.cells1 (.int .i64 4) (.int .i64 4096))
    clear HR2 HR3 hz hBT
    unfold Held
    go_wp2_with fail
    exact bodyPost_ret (HR4.out.retR HZS.out _ rfl rfl) rfl (HFIN.out _ HR4.out.bel)
  · have hn' : ¬ (4096 : Int) < (n : Int) := by omega
    obtain ⟨hF, hM⟩ := refR_long bs (by omega)
    have HNR := hid (fun W (hW : Below w.heap.size w W) => refNewR_calls w.heap.size n c A bs W (hs.fit.keep hW) hW.size hnc hn)
    have HRD := hid (fun W g c (h : RfB W g w.heap.size c A bs (.ok 0)) => refRead_calls g w.heap.size c A bs W h)
    have hz2 := hz
    generalize hzd : zmc = zd at hz HSA HOZ hBT HBAD HR2 HZS hz2
    have HZD := hid hzd
    rw [hlen] at HRD
    have h32 : (refR bs).1.c.id.length = 32 := by
      unfold refR refK
      split
      · split
        · rename_i hk
          rw [refB_man _ _ _ hk]; exact manB_id _ _ _ _
        · rfl
      · rfl
    generalize refR bs = DR at HRD hF hM h32
    have HF := hid hF; have HM := hid hM; have H32 := hid h32
    clear hs hF hM hzd h32
    go_enter Try.func21, Try.ntmps21
    go_wp2_with fail
    generalize hR : w.heap.size = R at HR2 ⊢
    have HRE := hid hR
    generalize (w.alloc (.cells zd 28)).alloc (.cells #[.int .i64 0, .int .i64 0] 43) = w1 at HR2 ⊢
    clear hR
    refine (HNR.out w1 HR2.out.bel).mono ?_
    rintro _ w2 ⟨rfl, hrd, hb2⟩
    have HR3 := hid (HR2.out.keep hb2)
    have HRQ := hid (show R + 2 ≤ w1.heap.size from HR2.out.b1.lt)
    have HRD1 := hid hrd
    clear hrd hb2 HNR HR2
    generalize w1.heap.size = g at HRD1 HRQ ⊢
    go_wp2_with fail
    refine (HRD.out w2 g c HRD1.out).mono ?_
    rintro _ w4 ⟨v1, v2, rfl, ho1, ho2, hp⟩
    have HR5 := hid (HR3.out.chg hp.2 (fun b hb => by have := HRQ.out; simp at hb; omega))
    have HO1 := hid (ho1.lower (base' := R + 2) (by have := HR3.out.b1.lt; omega))
    have HO2 := hid (ho2.lower (base' := R + 2) (by have := HR3.out.b1.lt; omega))
    have HSP := hid hp.1
    obtain ⟨DM, DS, DX⟩ := DR
    obtain ⟨x, y⟩ := DX
    dsimp only at HF HM H32 HO1 HO2 HSP
    have HSC : Hid ((Try.prog.info? 28).map (·.size) = some (mcs DM v1 v2).toArray.size) := size_man H32.out _ _
    have HSZ : Hid (zd.size = (mcs DM v1 v2).toArray.size) := by rw [Hid, HZS.out, List.size_toArray, mcs_length H32.out]
    have HOC := hid (mcs_one DM v1 v2 (by rcases ho1.form with ⟨_, _, _, rfl⟩; rfl) (by rcases ho2.form with ⟨_, _, _, rfl⟩; rfl))
    have HGD := hid (show (refF bs DS (x, y)).1 = 0 → ∀ W', OwnD W' w.heap.size v1 DM.l → OwnD W' w.heap.size v2 DM.u → Below w.heap.size w W' → DecQ w bs (.returned (.tuple #[.agg (mcs DM v1 v2).toArray, .agg #[.int .i64 0, .int .i64 0]])) W' from fun h W' a b c => by
      have h0 := refF_zero0 HSP.out.good h
      have hM : decM bs = DM := by rw [← HM.out, if_pos h]
      exact ⟨v1, v2, by rw [hM, ← HF.out, h0]; rfl, by rw [hM]; exact a, by rw [hM]; exact b, c⟩)
    have HBD := hid (show (refF bs DS (x, y)).1 ≠ 0 → ∀ W', Below w.heap.size w W' → DecQ w bs (.returned (.tuple #[.agg zd, .agg #[.int .i64 ((refF bs DS (x, y)).1 : Int), .int .i64 ((refF bs DS (x, y)).2 : Int)]])) W' from fun h W' a => by
      have := HBAD.out (decF bs) rfl (by rw [← HF.out]; exact h) W' a
      rw [← HF.out] at this
      exact this)
    have HRS := hid (Res2.start w4 zd #[.int .i64 0, .int .i64 0])
    have HSZ39 := hid (show (mcs DM v1 v2).toArray.size = 39 from by rw [List.size_toArray, mcs_length H32.out])
    generalize (mcs DM v1 v2).toArray = cm at HSC HSZ HOC HGD HSZ39 ⊢
    clear ho1 ho2 hp HRD HBAD HRQ HR3 HRD1 H32 HF HM
    unfold fltV
    dsimp only
    go_wp2_with ((refine wpList_store_blk rfl 28 _ _ rfl w4.heap.size _ rfl rfl 28 _ HRS.out.b0 HSC.out HSZ.out HOC.out ?_); refine Held.go ?_)
    have HQ2 := hid (HRS.out.set0 cm)
    generalize ((w4.alloc (.cells zd 28)).alloc (.cells #[.int .i64 0, .int .i64 0] 43)).setRow w4.heap.size cm = w5 at HQ2 ⊢
    have d0 := HQ2.out.b1.cell 0 rfl
    have d1 := HQ2.out.b1.cell 1 rfl
    have f0 := HQ2.out.b1.frozen 0
    have f1 := HQ2.out.b1.frozen 1
    have HQ3 := hid (HQ2.out.cells1 (.int .i64 (x : Int)) (.int .i64 (y : Int)))
    generalize hw6 : (w5.setCell ⟨w4.heap.size + 1, 0, none⟩ (.int .i64 (x : Int))).setCell ⟨w4.heap.size + 1, 1, none⟩ (.int .i64 (y : Int)) = w6 at HQ3
    have HR6 := hid (HR5.out.keep HQ3.out.bel)
    have HO3 := hid (HO1.out.keep HQ3.out.bel)
    have HO4 := hid (HO2.out.keep HQ3.out.bel)
    have HSP6 := hid (HSP.out.keep HQ3.out.bel)
    have HB1 := hid HQ3.out.b0; have HB2 := hid HQ3.out.b1
    have HOL := hid (show ∀ b, v1.ownBlock = some b ∨ v2.ownBlock = some b → b < w4.heap.size from fun b hb => hb.elim (fun e => (World.ownsRow.lt HO1.out b e).2) (fun e => (World.ownsRow.lt HO2.out b e).2))
    have HML := hid (show R + 2 ≤ w4.heap.size from by have := HR5.out.b1.lt; omega)
    clear HRS HQ2 HQ3 HR5 HO1 HO2 HSP
    generalize w4.heap.size = M at HB1 HB2 HOL HML d0 d1 f0 f1 hw6 ⊢
    unfold Held
    go_wp2_with fail
    clear hw6 d0 d1 f0 f1
    obtain ⟨⟨ap, hrr⟩, -⟩ := HSP6.out
    have HEND := hid (refEnd_calls g w.heap.size bs.length c A bs ap DS w6 hrr)
    clear hrr
    refine HEND.out.mono ?_
    rintro _ w7 ⟨rfl, hb7⟩
    have KZ := hid (Blk.new w7 43 #[.int .i64 0, .int .i64 0])
    generalize hen : endS bs DS = en
    have HEN := hid hen
    clear hen HEND
    obtain ⟨a1, a2⟩ := en
    dsimp only
    have HNS := hid (new_set w7 43 #[.int .i64 0, .int .i64 0] #[.int .i64 (a1 : Int), .int .i64 (a2 : Int)])
    have HB7 := hid hb7
    clear hb7
    go_wp2_with ((refine wpList_store_blk rfl 43 _ _ rfl w7.heap.size _ rfl rfl 43 _ KZ.out (size_fault _ rfl) rfl rfl ?_); refine Held.go ?_)
    obtain ⟨hb8, hk8⟩ := HNS.out
    generalize (w7.alloc (.cells #[.int .i64 0, .int .i64 0] 43)).setRow w7.heap.size #[.int .i64 (a1 : Int), .int .i64 (a2 : Int)] = w8 at hb8 hk8 ⊢
    have hb68 := HB7.out.trans (hb8.mono HB7.out.size)
    have HU := hid (show DcU w w8 R M w7.heap.size zd cm (x : Int) (y : Int) (a1 : Int) (a2 : Int) v1 v2 DM.l DM.u from
      ⟨HR6.out.keep hb68, HB1.out.keep hb68, HB2.out.keep hb68, hk8, HML.out, by have := HB2.out.lt; have := HB7.out.size; omega, HO3.out.keep hb68, HO4.out.keep hb68⟩)
    have HSP8 := hid (HSP6.out.keep hb68)
    clear hb8 hk8 hb68 KZ HNS HB7 HR6 HB1 HB2 HO3 HO4 HSP6
    generalize w7.heap.size = E at HU ⊢
    have HRST := hid (fun W (h : RfB W g w.heap.size c A bs DS) => refRest g w.heap.size c A bs DS W h)
    have HFF := hid (show refF bs DS (x, y) = if (a1 ≠ 0 ∧ restS bs DS = 0) ∨ x = 0 then (a1, a2) else (x, y) from by unfold refF; rw [HEN.out])
    have HGOOD := hid (fun h => refF_zero0 (rf := (x, y)) HSP8.out.good h)
    generalize refF bs DS (x, y) = FF at HFF HGD HBD HGOOD
    generalize restS bs DS = rs at HRST HFF
    obtain ⟨X, Y⟩ := FF
    dsimp only at HGD HBD HGOOD
    have e0 := HU.out.bE.cell 0 rfl
    have e1 := HU.out.bF.cell 0 rfl
    unfold Held
    obtain ⟨ia, hia⟩ : ∃ ia : Int, (a1 : Int) = ia := ⟨_, rfl⟩
    obtain ⟨ib, hib⟩ : ∃ ib : Int, (a2 : Int) = ib := ⟨_, rfl⟩
    obtain ⟨ix, hix⟩ : ∃ ix : Int, (x : Int) = ix := ⟨_, rfl⟩
    obtain ⟨iy, hiy⟩ : ∃ iy : Int, (y : Int) = iy := ⟨_, rfl⟩
    rw [hia, hib, hix, hiy] at HU
    by_cases ha : a1 = 0
    · by_cases hx : x = 0
      --DEV
      · have fa : (ia != 0) = false := by rw [← hia]; simp [ha]
        have fa2 : ia = 0 := by omega
        have fx : (ix == 0) = true := by rw [← hix]; simp [hx]
        have fx2 : ix = 0 := by omega
        have HFX := hid (show X = a1 ∧ Y = a2 from by have h := HFF.out; rw [if_pos (.inr hx)] at h; injection h with h1 h2; exact ⟨h1, h2⟩)
        have HGD0 := hid (show ∀ W', OwnD W' w.heap.size v1 DM.l → OwnD W' w.heap.size v2 DM.u → Below w.heap.size w W' → DecQ w bs (.returned (.tuple #[.agg cm, .agg #[.int .i64 ia, .int .i64 ib]])) W' from by
          obtain ⟨rfl, rfl⟩ := HFX.out
          have h0 := HGOOD.out ha
          injection h0 with h1 h2
          rw [← hia, ← hib, h1, h2]
          exact HGD.out ha)
        clear HBD HGD HFX HGOOD
        clear HFF ha hx
        rw [hia, hib, hix, hiy]
        clear hia hib hix hiy
        subst fa2
        subst fx2
        replace e0 : w8.cell? ⟨E, 0, none⟩ = some (.int .i64 0) := HU.out.bE.cell 0 rfl
        replace e1 : w8.cell? ⟨M + 1, 0, none⟩ = some (.int .i64 0) := HU.out.bF.cell 0 rfl
        clear HRST HSP8
        have HV := HU
        clear HU
        have HLE := hid (run_loadVar_row (P := Try.prog) w8 E _ 43 _ (0, 0) _ HV.out.bE Try.underlying43 rfl (size_fault _ rfl))
        have HW := hid (HV.out.over (k := .pointer none) rfl (fun b hb => by have := HOL.out b hb; omega))
        go_wp2_with (first | (refine wpList_load_run rfl 43 _ rfl ⟨E, 0, none⟩ _ rfl HLE.out ?_) | ((refine wpList_store_blk rfl 43 _ _ rfl (M + 1) _ rfl rfl 43 _ HV.out.bF (size_fault _ rfl) rfl rfl ?_); refine Held.go ?_))
        clear HV HLE
        generalize w8.setRow (M + 1) #[.int .i64 0, .int .i64 ib] = wz at HW ⊢
        have e2 := HW.out.bF.cell 0 rfl
        unfold Held
        go_wp2_with fail
        have HST := hid (DcT.step0 (HW.out.last cm))
        clear e2
        refine wp_region_invG 47 (.pointer none) (dtVal cm 0 ib) (DcT w R M (M + 1) zd cm cm 0 ib v1 v2 DM.l DM.u) (by kernel_rfl) (by kernel_rfl) (by exact Nat.le_refl 47) ?_ ?_ ?_
        · exact HST.out
        · intro i o f gh a W hi hf hdep hsame hcl hval hS
          rcases i with _ | _ | _ | _ | i
          all_goals simp only [List.getElem?_cons_succ, List.getElem?_cons_zero, List.getElem?_nil, Option.some.injEq, reduceCtorEq] at hi
          all_goals subst hi
          · have E5 : a.tmps[5]? = some (.pointer (some ⟨M, 0, none⟩)) := (same_of hsame 5 (by rfl)).trans rfl
            refine g_plain rfl ?_
            exact does_load _ _ rfl M (by rw [eval_getD, E5]; rfl) _ hS.bM _ Try.underlying28 rfl HSC.out ⟨.pointer none, .inr rfl, hS.step 0 (by decide) (by decide)⟩
          · have E6 : a.tmps[6]? = some (.pointer (some ⟨M + 1, 0, none⟩)) := (same_of hsame 6 (by rfl)).trans rfl
            refine g_plain rfl ?_
            exact does_load _ _ rfl (M + 1) (by rw [eval_getD, E6]; rfl) _ hS.bG _ Try.underlying43 rfl (size_fault _ rfl) ⟨.pointer none, .inr rfl, hS.step 1 (by decide) (by decide)⟩
          · have E2 : a.tmps[2]? = some (.pointer (some ⟨R, 0, none⟩)) := (same_of hsame 2 (by rfl)).trans rfl
            have EV := hval 0 _ 45 rfl rfl (dep_of hdep 0 (by rfl))
            unfold dtVal at EV
            have hb0 := hS.b0
            rw [if_neg (by rw [hf]; decide)] at hb0
            refine g_plain rfl ?_
            exact does_store 28 _ _ rfl R cm (by rw [eval_getD, E2]; rfl) (by rw [eval_getD, EV]; rfl) 28 _ hb0 HSC.out HSZ.out HOC.out ⟨.pointer none, .inl rfl, hS.store0⟩
          · have E3 : a.tmps[3]? = some (.pointer (some ⟨R + 1, 0, none⟩)) := (same_of hsame 3 (by rfl)).trans rfl
            have EV := hval 1 _ 46 rfl rfl (dep_of hdep 1 (by rfl))
            unfold dtVal at EV
            have hb1 := hS.b1
            rw [if_neg (by rw [hf]; decide)] at hb1
            refine g_plain rfl ?_
            exact does_store 43 _ _ rfl (R + 1) #[.int .i64 0, .int .i64 ib] (by rw [eval_getD, E3]; rfl) (by rw [eval_getD, EV]; rfl) 43 _ hb1 (size_fault _ rfl) rfl rfl ⟨.pointer none, .inl rfl, hS.store1⟩
        · intro gh W hS
          have HRS := hid (hS.res rfl rfl)
          have HO1 := hid (hS.o1.lower (base' := w.heap.size) (by have := HRE.out; omega))
          have HO2 := hid (hS.o2.lower (base' := w.heap.size) (by have := HRE.out; omega))
          have HDQ := hid (HGD0.out W HO1.out HO2.out hS.bel)
          clear hS HST HW
          simp only [putAll, dtVal, Nat.zero_add, Act.put, List.setIfInBounds_toArray, List.set_cons_zero, List.set_cons_succ]
          go_wp2_with fail
          exact bodyPost_ret (HRS.out.retR HSZ39.out _ rfl rfl) rfl HDQ.out
      --VED
      --DEV
      · have fa : (ia != 0) = false := by rw [← hia]; simp [ha]
        have fa2 : ia = 0 := by omega
        have fx : (ix == 0) = false := by rw [← hix]; simp; omega
        have fx2 : ¬ ix = 0 := by omega
        have HFX := hid (show X = x ∧ Y = y from by have h := HFF.out; rw [if_neg (by rintro (⟨h, _⟩ | h); exact h ha; exact hx h)] at h; injection h with h1 h2; exact ⟨h1, h2⟩)
        have HBD0 := hid (show ∀ W', Below w.heap.size w W' → DecQ w bs (.returned (.tuple #[.agg zd, .agg #[.int .i64 ix, .int .i64 iy]])) W' from by
          obtain ⟨rfl, rfl⟩ := HFX.out
          rw [← hix, ← hiy]
          exact HBD.out hx)
        clear HBD HGD HFX HGOOD
        clear HFF ha
        rw [hia, hib, hix, hiy]
        clear hia hib hix hiy
        replace e0 : w8.cell? ⟨E, 0, none⟩ = some (.int .i64 ia) := HU.out.bE.cell 0 rfl
        replace e1 : w8.cell? ⟨M + 1, 0, none⟩ = some (.int .i64 ix) := HU.out.bF.cell 0 rfl
        clear HRST HSP8
        have HV := HU
        clear HU
        have HW := HV
        have e2 := HW.out.bF.cell 0 rfl
        go_wp2_with fail
        have HST := hid (DcT.step0 (HW.out.last zd))
        clear e2
        refine wp_region_invG 47 (.pointer none) (dtVal zd ix iy) (DcT w R M (M + 1) zd cm zd ix iy v1 v2 DM.l DM.u) (by kernel_rfl) (by kernel_rfl) (by exact Nat.le_refl 47) ?_ ?_ ?_
        · exact HST.out
        · intro i o f gh a W hi hf hdep hsame hcl hval hS
          rcases i with _ | _ | _ | _ | i
          all_goals simp only [List.getElem?_cons_succ, List.getElem?_cons_zero, List.getElem?_nil, Option.some.injEq, reduceCtorEq] at hi
          all_goals subst hi
          · refine g_plain rfl ?_
            exact does_value (w' := W) (v := .agg zd) (by go_simp) ⟨.pointer none, .inr rfl, hS.step 0 (by decide) (by decide)⟩
          · have E6 : a.tmps[6]? = some (.pointer (some ⟨M + 1, 0, none⟩)) := (same_of hsame 6 (by rfl)).trans rfl
            refine g_plain rfl ?_
            exact does_load _ _ rfl (M + 1) (by rw [eval_getD, E6]; rfl) _ hS.bG _ Try.underlying43 rfl (size_fault _ rfl) ⟨.pointer none, .inr rfl, hS.step 1 (by decide) (by decide)⟩
          · have E2 : a.tmps[2]? = some (.pointer (some ⟨R, 0, none⟩)) := (same_of hsame 2 (by rfl)).trans rfl
            have EV := hval 0 _ 43 rfl rfl (dep_of hdep 0 (by rfl))
            unfold dtVal at EV
            have hb0 := hS.b0
            rw [if_neg (by rw [hf]; decide)] at hb0
            refine g_plain rfl ?_
            exact does_store 28 _ _ rfl R zd (by rw [eval_getD, E2]; rfl) (by rw [eval_getD, EV]; rfl) 28 _ hb0 HSA.out rfl HOZ.out ⟨.pointer none, .inl rfl, hS.store0⟩
          · have E3 : a.tmps[3]? = some (.pointer (some ⟨R + 1, 0, none⟩)) := (same_of hsame 3 (by rfl)).trans rfl
            have EV := hval 1 _ 44 rfl rfl (dep_of hdep 1 (by rfl))
            unfold dtVal at EV
            have hb1 := hS.b1
            rw [if_neg (by rw [hf]; decide)] at hb1
            refine g_plain rfl ?_
            exact does_store 43 _ _ rfl (R + 1) #[.int .i64 ix, .int .i64 iy] (by rw [eval_getD, E3]; rfl) (by rw [eval_getD, EV]; rfl) 43 _ hb1 (size_fault _ rfl) rfl rfl ⟨.pointer none, .inl rfl, hS.store1⟩
        · intro gh W hS
          have HRS := hid (hS.res rfl rfl)
          have HDQ := hid (HBD0.out W hS.bel)
          clear hS HST HW
          simp only [putAll, dtVal, Nat.zero_add, Act.put, List.setIfInBounds_toArray, List.set_cons_zero, List.set_cons_succ]
          go_wp2_with fail
          exact bodyPost_ret (HRS.out.retR HZS.out _ rfl rfl) rfl HDQ.out
      --VED
    · by_cases hr : rs = 0
      --DEV
      · have fa : (ia != 0) = true := by rw [← hia]; simp; omega
        have fa2 : ¬ ia = 0 := by omega
        obtain ⟨ir, hir⟩ : ∃ ir : Int, (rs : Int) = ir := ⟨_, rfl⟩
        have fr : (ir == 0) = true := by rw [← hir]; simp [hr]
        have fr2 : ir = 0 := by omega
        rw [hir] at HRST
        have HFX := hid (show X = a1 ∧ Y = a2 from by have h := HFF.out; rw [if_pos (.inl ⟨ha, hr⟩)] at h; injection h with h1 h2; exact ⟨h1, h2⟩)
        have HBD0 := hid (show ∀ W', Below w.heap.size w W' → DecQ w bs (.returned (.tuple #[.agg zd, .agg #[.int .i64 ia, .int .i64 ib]])) W' from by
          obtain ⟨rfl, rfl⟩ := HFX.out
          rw [← hia, ← hib]
          exact HBD.out ha)
        clear HBD HGD HFX HGOOD
        clear HFF ha hr
        rw [hia, hib, hix, hiy]
        clear hia hib hix hiy
        replace e0 : w8.cell? ⟨E, 0, none⟩ = some (.int .i64 ia) := HU.out.bE.cell 0 rfl
        replace e1 : w8.cell? ⟨M + 1, 0, none⟩ = some (.int .i64 ix) := HU.out.bF.cell 0 rfl
        go_wp2_with fail
        refine (HRST.out w8 HSP8.out).mono ?_
        rintro _ w9 ⟨rfl, hb9⟩
        have HV := hid (HU.out.keep hb9)
        have e1 := HV.out.bF.cell 0 rfl
        clear hb9 HU HRST HSP8 e0
        have HLE := hid (run_loadVar_row (P := Try.prog) w9 E _ 43 _ (0, 0) _ HV.out.bE Try.underlying43 rfl (size_fault _ rfl))
        have HW := hid (HV.out.over (k := .pointer none) rfl (fun b hb => by have := HOL.out b hb; omega))
        go_wp2_with (first | (refine wpList_load_run rfl 43 _ rfl ⟨E, 0, none⟩ _ rfl HLE.out ?_) | ((refine wpList_store_blk rfl 43 _ _ rfl (M + 1) _ rfl rfl 43 _ HV.out.bF (size_fault _ rfl) rfl rfl ?_); refine Held.go ?_))
        clear HV HLE
        generalize w9.setRow (M + 1) #[.int .i64 ia, .int .i64 ib] = wz at HW ⊢
        have e2 := HW.out.bF.cell 0 rfl
        unfold Held
        go_wp2_with fail
        have HST := hid (DcT.step0 (HW.out.last zd))
        clear e2
        refine wp_region_invG 47 (.pointer none) (dtVal zd ia ib) (DcT w R M (M + 1) zd cm zd ia ib v1 v2 DM.l DM.u) (by kernel_rfl) (by kernel_rfl) (by exact Nat.le_refl 47) ?_ ?_ ?_
        · exact HST.out
        · intro i o f gh a W hi hf hdep hsame hcl hval hS
          rcases i with _ | _ | _ | _ | i
          all_goals simp only [List.getElem?_cons_succ, List.getElem?_cons_zero, List.getElem?_nil, Option.some.injEq, reduceCtorEq] at hi
          all_goals subst hi
          · refine g_plain rfl ?_
            exact does_value (w' := W) (v := .agg zd) (by go_simp) ⟨.pointer none, .inr rfl, hS.step 0 (by decide) (by decide)⟩
          · have E6 : a.tmps[6]? = some (.pointer (some ⟨M + 1, 0, none⟩)) := (same_of hsame 6 (by rfl)).trans rfl
            refine g_plain rfl ?_
            exact does_load _ _ rfl (M + 1) (by rw [eval_getD, E6]; rfl) _ hS.bG _ Try.underlying43 rfl (size_fault _ rfl) ⟨.pointer none, .inr rfl, hS.step 1 (by decide) (by decide)⟩
          · have E2 : a.tmps[2]? = some (.pointer (some ⟨R, 0, none⟩)) := (same_of hsame 2 (by rfl)).trans rfl
            have EV := hval 0 _ 43 rfl rfl (dep_of hdep 0 (by rfl))
            unfold dtVal at EV
            have hb0 := hS.b0
            rw [if_neg (by rw [hf]; decide)] at hb0
            refine g_plain rfl ?_
            exact does_store 28 _ _ rfl R zd (by rw [eval_getD, E2]; rfl) (by rw [eval_getD, EV]; rfl) 28 _ hb0 HSA.out rfl HOZ.out ⟨.pointer none, .inl rfl, hS.store0⟩
          · have E3 : a.tmps[3]? = some (.pointer (some ⟨R + 1, 0, none⟩)) := (same_of hsame 3 (by rfl)).trans rfl
            have EV := hval 1 _ 44 rfl rfl (dep_of hdep 1 (by rfl))
            unfold dtVal at EV
            have hb1 := hS.b1
            rw [if_neg (by rw [hf]; decide)] at hb1
            refine g_plain rfl ?_
            exact does_store 43 _ _ rfl (R + 1) #[.int .i64 ia, .int .i64 ib] (by rw [eval_getD, E3]; rfl) (by rw [eval_getD, EV]; rfl) 43 _ hb1 (size_fault _ rfl) rfl rfl ⟨.pointer none, .inl rfl, hS.store1⟩
        · intro gh W hS
          have HRS := hid (hS.res rfl rfl)
          have HDQ := hid (HBD0.out W hS.bel)
          clear hS HST HW
          simp only [putAll, dtVal, Nat.zero_add, Act.put, List.setIfInBounds_toArray, List.set_cons_zero, List.set_cons_succ]
          go_wp2_with fail
          exact bodyPost_ret (HRS.out.retR HZS.out _ rfl rfl) rfl HDQ.out
      --VED
      · by_cases hx : x = 0
        --DEV
        · have fa : (ia != 0) = true := by rw [← hia]; simp; omega
          have fa2 : ¬ ia = 0 := by omega
          obtain ⟨ir, hir⟩ : ∃ ir : Int, (rs : Int) = ir := ⟨_, rfl⟩
          have fr : (ir == 0) = false := by rw [← hir]; simp; omega
          have fr2 : ¬ ir = 0 := by omega
          rw [hir] at HRST
          have fx : (ix == 0) = true := by rw [← hix]; simp [hx]
          have fx2 : ix = 0 := by omega
          have HFX := hid (show X = a1 ∧ Y = a2 from by have h := HFF.out; rw [if_pos (.inr hx)] at h; injection h with h1 h2; exact ⟨h1, h2⟩)
          have HBD0 := hid (show ∀ W', Below w.heap.size w W' → DecQ w bs (.returned (.tuple #[.agg zd, .agg #[.int .i64 ia, .int .i64 ib]])) W' from by
            obtain ⟨rfl, rfl⟩ := HFX.out
            rw [← hia, ← hib]
            exact HBD.out ha)
          clear HBD HGD HFX HGOOD
          clear HFF ha hx
          rw [hia, hib, hix, hiy]
          clear hia hib hix hiy
          replace e0 : w8.cell? ⟨E, 0, none⟩ = some (.int .i64 ia) := HU.out.bE.cell 0 rfl
          replace e1 : w8.cell? ⟨M + 1, 0, none⟩ = some (.int .i64 ix) := HU.out.bF.cell 0 rfl
          go_wp2_with fail
          refine (HRST.out w8 HSP8.out).mono ?_
          rintro _ w9 ⟨rfl, hb9⟩
          have HV := hid (HU.out.keep hb9)
          have e1 := HV.out.bF.cell 0 rfl
          clear hb9 HU HRST HSP8 e0
          have HLE := hid (run_loadVar_row (P := Try.prog) w9 E _ 43 _ (0, 0) _ HV.out.bE Try.underlying43 rfl (size_fault _ rfl))
          have HW := hid (HV.out.over (k := .pointer none) rfl (fun b hb => by have := HOL.out b hb; omega))
          go_wp2_with (first | (refine wpList_load_run rfl 43 _ rfl ⟨E, 0, none⟩ _ rfl HLE.out ?_) | ((refine wpList_store_blk rfl 43 _ _ rfl (M + 1) _ rfl rfl 43 _ HV.out.bF (size_fault _ rfl) rfl rfl ?_); refine Held.go ?_))
          clear HV HLE
          generalize w9.setRow (M + 1) #[.int .i64 ia, .int .i64 ib] = wz at HW ⊢
          have e2 := HW.out.bF.cell 0 rfl
          unfold Held
          go_wp2_with fail
          have HST := hid (DcT.step0 (HW.out.last zd))
          clear e2
          refine wp_region_invG 47 (.pointer none) (dtVal zd ia ib) (DcT w R M (M + 1) zd cm zd ia ib v1 v2 DM.l DM.u) (by kernel_rfl) (by kernel_rfl) (by exact Nat.le_refl 47) ?_ ?_ ?_
          · exact HST.out
          · intro i o f gh a W hi hf hdep hsame hcl hval hS
            rcases i with _ | _ | _ | _ | i
            all_goals simp only [List.getElem?_cons_succ, List.getElem?_cons_zero, List.getElem?_nil, Option.some.injEq, reduceCtorEq] at hi
            all_goals subst hi
            · refine g_plain rfl ?_
              exact does_value (w' := W) (v := .agg zd) (by go_simp) ⟨.pointer none, .inr rfl, hS.step 0 (by decide) (by decide)⟩
            · have E6 : a.tmps[6]? = some (.pointer (some ⟨M + 1, 0, none⟩)) := (same_of hsame 6 (by rfl)).trans rfl
              refine g_plain rfl ?_
              exact does_load _ _ rfl (M + 1) (by rw [eval_getD, E6]; rfl) _ hS.bG _ Try.underlying43 rfl (size_fault _ rfl) ⟨.pointer none, .inr rfl, hS.step 1 (by decide) (by decide)⟩
            · have E2 : a.tmps[2]? = some (.pointer (some ⟨R, 0, none⟩)) := (same_of hsame 2 (by rfl)).trans rfl
              have EV := hval 0 _ 43 rfl rfl (dep_of hdep 0 (by rfl))
              unfold dtVal at EV
              have hb0 := hS.b0
              rw [if_neg (by rw [hf]; decide)] at hb0
              refine g_plain rfl ?_
              exact does_store 28 _ _ rfl R zd (by rw [eval_getD, E2]; rfl) (by rw [eval_getD, EV]; rfl) 28 _ hb0 HSA.out rfl HOZ.out ⟨.pointer none, .inl rfl, hS.store0⟩
            · have E3 : a.tmps[3]? = some (.pointer (some ⟨R + 1, 0, none⟩)) := (same_of hsame 3 (by rfl)).trans rfl
              have EV := hval 1 _ 44 rfl rfl (dep_of hdep 1 (by rfl))
              unfold dtVal at EV
              have hb1 := hS.b1
              rw [if_neg (by rw [hf]; decide)] at hb1
              refine g_plain rfl ?_
              exact does_store 43 _ _ rfl (R + 1) #[.int .i64 ia, .int .i64 ib] (by rw [eval_getD, E3]; rfl) (by rw [eval_getD, EV]; rfl) 43 _ hb1 (size_fault _ rfl) rfl rfl ⟨.pointer none, .inl rfl, hS.store1⟩
          · intro gh W hS
            have HRS := hid (hS.res rfl rfl)
            have HDQ := hid (HBD0.out W hS.bel)
            clear hS HST HW
            simp only [putAll, dtVal, Nat.zero_add, Act.put, List.setIfInBounds_toArray, List.set_cons_zero, List.set_cons_succ]
            go_wp2_with fail
            exact bodyPost_ret (HRS.out.retR HZS.out _ rfl rfl) rfl HDQ.out
        --VED
        --DEV
        · have fa : (ia != 0) = true := by rw [← hia]; simp; omega
          have fa2 : ¬ ia = 0 := by omega
          obtain ⟨ir, hir⟩ : ∃ ir : Int, (rs : Int) = ir := ⟨_, rfl⟩
          have fr : (ir == 0) = false := by rw [← hir]; simp; omega
          have fr2 : ¬ ir = 0 := by omega
          rw [hir] at HRST
          have fx : (ix == 0) = false := by rw [← hix]; simp; omega
          have fx2 : ¬ ix = 0 := by omega
          have HFX := hid (show X = x ∧ Y = y from by have h := HFF.out; rw [if_neg (by rintro (⟨_, h⟩ | h); exact hr h; exact hx h)] at h; injection h with h1 h2; exact ⟨h1, h2⟩)
          have HBD0 := hid (show ∀ W', Below w.heap.size w W' → DecQ w bs (.returned (.tuple #[.agg zd, .agg #[.int .i64 ix, .int .i64 iy]])) W' from by
            obtain ⟨rfl, rfl⟩ := HFX.out
            rw [← hix, ← hiy]
            exact HBD.out hx)
          clear HBD HGD HFX HGOOD
          clear HFF ha
          rw [hia, hib, hix, hiy]
          clear hia hib hix hiy
          replace e0 : w8.cell? ⟨E, 0, none⟩ = some (.int .i64 ia) := HU.out.bE.cell 0 rfl
          replace e1 : w8.cell? ⟨M + 1, 0, none⟩ = some (.int .i64 ix) := HU.out.bF.cell 0 rfl
          go_wp2_with fail
          refine (HRST.out w8 HSP8.out).mono ?_
          rintro _ w9 ⟨rfl, hb9⟩
          have HV := hid (HU.out.keep hb9)
          have e1 := HV.out.bF.cell 0 rfl
          clear hb9 HU HRST HSP8 e0
          have HW := HV
          have e2 := HW.out.bF.cell 0 rfl
          go_wp2_with fail
          have HST := hid (DcT.step0 (HW.out.last zd))
          clear e2
          refine wp_region_invG 47 (.pointer none) (dtVal zd ix iy) (DcT w R M (M + 1) zd cm zd ix iy v1 v2 DM.l DM.u) (by kernel_rfl) (by kernel_rfl) (by exact Nat.le_refl 47) ?_ ?_ ?_
          · exact HST.out
          · intro i o f gh a W hi hf hdep hsame hcl hval hS
            rcases i with _ | _ | _ | _ | i
            all_goals simp only [List.getElem?_cons_succ, List.getElem?_cons_zero, List.getElem?_nil, Option.some.injEq, reduceCtorEq] at hi
            all_goals subst hi
            · refine g_plain rfl ?_
              exact does_value (w' := W) (v := .agg zd) (by go_simp) ⟨.pointer none, .inr rfl, hS.step 0 (by decide) (by decide)⟩
            · have E6 : a.tmps[6]? = some (.pointer (some ⟨M + 1, 0, none⟩)) := (same_of hsame 6 (by rfl)).trans rfl
              refine g_plain rfl ?_
              exact does_load _ _ rfl (M + 1) (by rw [eval_getD, E6]; rfl) _ hS.bG _ Try.underlying43 rfl (size_fault _ rfl) ⟨.pointer none, .inr rfl, hS.step 1 (by decide) (by decide)⟩
            · have E2 : a.tmps[2]? = some (.pointer (some ⟨R, 0, none⟩)) := (same_of hsame 2 (by rfl)).trans rfl
              have EV := hval 0 _ 43 rfl rfl (dep_of hdep 0 (by rfl))
              unfold dtVal at EV
              have hb0 := hS.b0
              rw [if_neg (by rw [hf]; decide)] at hb0
              refine g_plain rfl ?_
              exact does_store 28 _ _ rfl R zd (by rw [eval_getD, E2]; rfl) (by rw [eval_getD, EV]; rfl) 28 _ hb0 HSA.out rfl HOZ.out ⟨.pointer none, .inl rfl, hS.store0⟩
            · have E3 : a.tmps[3]? = some (.pointer (some ⟨R + 1, 0, none⟩)) := (same_of hsame 3 (by rfl)).trans rfl
              have EV := hval 1 _ 44 rfl rfl (dep_of hdep 1 (by rfl))
              unfold dtVal at EV
              have hb1 := hS.b1
              rw [if_neg (by rw [hf]; decide)] at hb1
              refine g_plain rfl ?_
              exact does_store 43 _ _ rfl (R + 1) #[.int .i64 ix, .int .i64 iy] (by rw [eval_getD, E3]; rfl) (by rw [eval_getD, EV]; rfl) 43 _ hb1 (size_fault _ rfl) rfl rfl ⟨.pointer none, .inl rfl, hS.store1⟩
          · intro gh W hS
            have HRS := hid (hS.res rfl rfl)
            have HDQ := hid (HBD0.out W hS.bel)
            clear hS HST HW
            simp only [putAll, dtVal, Nat.zero_add, Act.put, List.setIfInBounds_toArray, List.set_cons_zero, List.set_cons_succ]
            go_wp2_with fail
            exact bodyPost_ret (HRS.out.retR HZS.out _ rfl rfl) rfl HDQ.out
        --VED
end Go.Proofs.Ytljnpaikjljmbaa
