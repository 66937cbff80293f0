/- Rows of descriptions that are written over; contract: the kit's OverManifest. -/
import Derived.Test.YtljnpaikjljmbaaMdRdD
namespace Go.Proofs.Ytljnpaikjljmbaa
open Go.RowKit

/-- a row that is written over, element by element -/
def RowO (W : World) (B : Nat) (A : Option Addr) (n : Nat) : Prop := 0 < n → ∃ g cur, A = some ⟨g, 0, none⟩ ∧ B ≤ g ∧ Blk W g 25 cur ∧ n * 35 ≤ cur.size
theorem OwnD.rowO {W : World} {base B n c : Nat} {A : Option Addr} {ds : List DD} (h : OwnD W base (.slice A n c) ds) (hB : B ≤ base) : RowO W B A n := fun hn => by
  rcases h.2 with ⟨e, h0⟩ | ⟨g, cap, cur, e, hb, hg, hnc, hcm, hsz, -⟩
  · injection e with _ e2 _; omega
  · injection e with e1 e2 e3
    have : n * 35 ≤ cap * 35 := Nat.mul_le_mul_right _ (by omega)
    exact ⟨g, cur, e1, by omega, hg, by omega⟩
theorem row_part (cur : Array Value) (o k : Nat) (ho : o = 0) (hk : (k + 1) * 35 ≤ cur.size) : ∃ pre mid post : List Value, cur = part pre mid post ∧ pre.length = o + k * 35 ∧ mid.length = 35 ∧ ∀ cs : List Value, cs.length = 35 → (part pre cs post).size = cur.size := by
  subst ho
  have hs : cur.toList.length = cur.size := Array.length_toList
  refine ⟨cur.toList.take (k * 35), (cur.toList.drop (k * 35)).take 35, cur.toList.drop (k * 35 + 35), ?_, ?_, ?_, ?_⟩
  · unfold part
    rw [List.append_assoc, ← List.drop_drop, List.take_append_drop, List.take_append_drop, Array.toArray_toList]
  · rw [List.length_take]; omega
  · rw [List.length_take, List.length_drop]; omega
  · intro cs hcs
    rw [part_size, List.length_take, List.length_drop]; omega
def overD : DD := ⟨-7, zeroB 32, 0, []⟩
theorem RowO.keep {W W' : World} {B : Nat} {A : Option Addr} {n : Nat} (h : RowO W B A n) (hb : Below W.heap.size W W') : RowO W' B A n := fun hn => by
  obtain ⟨g, cur, e, hg, hk, hs⟩ := h hn
  exact ⟨g, cur, e, hg, hk.keep hb, hs⟩
/-- a row stays one when a row of the same size is laid, whichever it is -/
theorem RowO.set {W : World} {B : Nat} {A : Option Addr} {n g : Nat} {cur new : Array Value} (h : RowO W B A n) (hk : Blk W g 25 cur) (hs : new.size = cur.size) : RowO (W.setRow g new) B A n := fun hn => by
  obtain ⟨g2, cur2, e, hg, hk2, hs2⟩ := h hn
  by_cases hgg : g2 = g
  · subst hgg
    have hcc : cur2.size = cur.size := by
      have h1 : W.heap[g2]? = some (.cells cur2 25 (0, 0)) := hk2
      have h2 : W.heap[g2]? = some (.cells cur 25 (0, 0)) := hk
      rw [h1] at h2
      injection h2 with h2
      injection h2 with h2
      rw [h2]
    exact ⟨g2, new, e, hg, hk.setRow new, by omega⟩
  · exact ⟨g2, cur2, e, hg, hk2.grown (grown_setRow W g new) (by simp; omega), hs2⟩
theorem RowO.ne_ {W : World} {B : Nat} {A : Option Addr} {n : Nat} (h : RowO W B A n) : ∀ g, A = some ⟨g, 0, none⟩ → 0 < n → g ≠ W.heap.size := fun g e hn => by
  obtain ⟨g2, cur2, e2, -, hk2, -⟩ := h hn
  rw [e] at e2
  injection e2 with e2
  injection e2 with e2
  have := hk2.lt
  omega
set_option maxRecDepth 20000 in
set_option maxHeartbeats 2000000 in
theorem overMan_calls (B n1 c1 n2 c2 : Nat) (A1 A2 : Option Addr) (m : MM) (w : World) (h32 : m.c.id.length = 32) (hr1 : RowO w B A1 n1) (hr2 : RowO w B A2 n2) (hB : B ≤ w.heap.size) (hn1 : n1 ≤ 1000000) (hn2 : n2 ≤ 1000000) :
    Calls Try.prog 22 #[.agg (mcs m (.slice A1 n1 c1) (.slice A2 n2 c2)).toArray] w fun e w' => e = .returned (.tuple #[]) ∧ Below B w w' := by
  have hb := below_new w (.cells (mcs m (.slice A1 n1 c1) (.slice A2 n2 c2)).toArray 28)
  have HK0 := hid (Blk.new w 28 (mcs m (.slice A1 n1 c1) (.slice A2 n2 c2)).toArray)
  have HL1 := hid hr1.ne_; have HL2 := hid hr2.ne_
  have HQ1 := hid (hr1.keep hb); have HQ2 := hid (hr2.keep hb)
  have HW0 := hid (hb.mono hB)
  have HBW := hid hB
  have H32 := hid h32
  clear hb hr1 hr2 hB h32
  obtain ⟨cm, hcm⟩ : ∃ cm, cm = (mcs m (.slice A1 n1 c1) (.slice A2 n2 c2)).toArray := ⟨_, rfl⟩
  rw [← hcm] at HK0 HQ1 HQ2 HW0 ⊢
  have HCM := hid hcm
  clear hcm
  go_enter Try.func22, Try.ntmps22
  go_wp2_with fail
  generalize w.alloc (.cells cm 28) = w1 at HK0 HQ1 HQ2 HW0 ⊢
  generalize w.heap.size = D at HK0 HL1 HL2 ⊢
  go_loopw [2] (fun i wr => ∃ k : Nat, i = .int .i64 (k : Int) ∧ k ≤ n1 ∧ Hid (RowO wr B A1 n1) ∧ Hid (RowO wr B A2 n2) ∧ Hid (Blk wr D 28 cm) ∧ Hid (Below B w wr)) (fun i _ => n1 - (intOf i).toNat)
  case atStart => exact ⟨0, rfl, Nat.zero_le _, HQ1, HQ2, HK0, HW0⟩
  case round =>
    clear HQ1 HQ2 HK0 HW0
    obtain ⟨k, rfl, hk, HR1, HR2, HK, HW⟩ := hrel
    have d37 := HK.out.cell 37 (by rw [HCM.out, List.getElem?_toArray]; exact mcs_37 H32.out _ _)
    have d38 := HK.out.cell 38 (by rw [HCM.out, List.getElem?_toArray]; exact mcs_38 H32.out _ _)
    by_cases hlt : k < n1
    · have hlt' : (k : Int) < (n1 : Int) := by omega
      obtain ⟨g, cur, hA, hg, hblk, hcs⟩ := HR1.out (by omega)
      have hgD := HL1.out g hA (by omega)
      obtain ⟨o, ho⟩ : ∃ o : Nat, o = 0 := ⟨0, rfl⟩
      have HR1b := HR1
      have HR2b := HR2
      have HHb := HL1
      clear HL1
      rw [← ho] at hA
      obtain ⟨pre, mid, post, hcur, hpre, hmid, hsz⟩ := row_part cur o k ho (by omega)
      have HBLK := hid (show Blk wr g 25 (part pre mid post) from by rw [← hcur]; exact hblk)
      have HPRE := hid hpre
      have HSD := hid (size_desc (d := overD) rfl)
      have HML := hid (show (dcs overD).length = mid.length from by rw [hmid]; rfl)
      have HN1 := hid (HR1b.out.set hblk (hsz (dcs overD) rfl))
      have HN2 := hid (HR2b.out.set hblk (hsz (dcs overD) rfl))
      have HKX := hid (HK.out.grown (grown_setRow wr g (part pre (dcs overD) post)) (by simp; omega))
      have HWX := hid (show Below B w (wr.setRow g (part pre (dcs overD) post)) from HW.out.trans (below_of_grown (grown_setRow wr g _) (Nat.le_trans HBW.out HW.out.size) (fun x e => by cases e; exact hg)))
      have HOC := hid (dcs_one overD)
      have HAA := hid hA
      clear ho hcur hpre hmid hsz hblk hcs hg hgD HR1b HR2b HR1 HR2
      rw [hA] at d37
      clear hA
      go_wp2_with (refine wpList_store_part rfl 25 _ _ rfl g (o + k * 35) (dcs overD) rfl rfl HBLK.out HPRE.out HSD.out HML.out HOC.out ?_; refine Held.go ?_)
      generalize wr.setRow g (part pre (dcs overD) post) = wn at HN1 HN2 HKX HWX ⊢
      unfold Held
      go_wp2_with fail
      go_roundw
      case rel => exact ⟨k + 1, by go_num, by omega, HN1, HN2, HKX, HWX⟩
      case measure => simp [intOf]; omega
    · obtain rfl : k = n1 := by omega
      clear HL1 d38
      go_wp2_with fail
      clear d37
      go_loopw [3] (fun i wr => ∃ j : Nat, i = .int .i64 (j : Int) ∧ j ≤ n2 ∧ Hid (RowO wr B A1 k) ∧ Hid (RowO wr B A2 n2) ∧ Hid (Blk wr D 28 cm) ∧ Hid (Below B w wr)) (fun i _ => n2 - (intOf i).toNat)
      case atStart => exact ⟨0, rfl, Nat.zero_le _, HR1, HR2, HK, HW⟩
      case round =>
        clear HR1 HR2 HK HW
        obtain ⟨k2, rfl, hk, HR1, HR2, HK, HW⟩ := hrel
        have d37 := HK.out.cell 37 (by rw [HCM.out, List.getElem?_toArray]; exact mcs_37 H32.out _ _)
        have d38 := HK.out.cell 38 (by rw [HCM.out, List.getElem?_toArray]; exact mcs_38 H32.out _ _)
        by_cases hlt : k2 < n2
        · have hlt' : (k2 : Int) < (n2 : Int) := by omega
          obtain ⟨g, cur, hA, hg, hblk, hcs⟩ := HR2.out (by omega)
          have hgD := HL2.out g hA (by omega)
          obtain ⟨o, ho⟩ : ∃ o : Nat, o = 0 := ⟨0, rfl⟩
          have HR1b := HR1
          have HR2b := HR2
          have HHb := HL2
          clear HL2
          rw [← ho] at hA
          obtain ⟨pre, mid, post, hcur, hpre, hmid, hsz⟩ := row_part cur o k2 ho (by omega)
          have HBLK := hid (show Blk wr g 25 (part pre mid post) from by rw [← hcur]; exact hblk)
          have HPRE := hid hpre
          have HSD := hid (size_desc (d := overD) rfl)
          have HML := hid (show (dcs overD).length = mid.length from by rw [hmid]; rfl)
          have HN1 := hid (HR1b.out.set hblk (hsz (dcs overD) rfl))
          have HN2 := hid (HR2b.out.set hblk (hsz (dcs overD) rfl))
          have HKX := hid (HK.out.grown (grown_setRow wr g (part pre (dcs overD) post)) (by simp; omega))
          have HWX := hid (show Below B w (wr.setRow g (part pre (dcs overD) post)) from HW.out.trans (below_of_grown (grown_setRow wr g _) (Nat.le_trans HBW.out HW.out.size) (fun x e => by cases e; exact hg)))
          have HOC := hid (dcs_one overD)
          have HAA := hid hA
          clear ho hcur hpre hmid hsz hblk hcs hg hgD HR1b HR2b HR1 HR2
          rw [hA] at d38
          clear hA
          go_wp2_with (refine wpList_store_part rfl 25 _ _ rfl g (o + k2 * 35) (dcs overD) rfl rfl HBLK.out HPRE.out HSD.out HML.out HOC.out ?_; refine Held.go ?_)
          generalize wr.setRow g (part pre (dcs overD) post) = wn at HN1 HN2 HKX HWX ⊢
          unfold Held
          go_wp2_with fail
          go_roundw
          case rel => exact ⟨k2 + 1, by go_num, by omega, HN1, HN2, HKX, HWX⟩
          case measure => simp [intOf]; omega
        · obtain rfl : k2 = n2 := by omega
          go_wp2_with fail
          go_end0
          exact ⟨rfl, HW.out⟩
end Go.Proofs.Ytljnpaikjljmbaa
