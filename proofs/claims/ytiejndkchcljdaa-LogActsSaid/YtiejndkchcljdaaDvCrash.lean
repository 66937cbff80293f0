/- Contract: a disk's forget. -/
import Derived.Test.YtiejndkchcljdaaDvFlush
namespace Go.Proofs.Ytiejndkchcljdaa
open Go.RowKit

/-- what is read, turned back to the image at writes -/
def backL (img l : List UInt8) (ws : List (Nat × List UInt8)) : List UInt8 := ws.foldl (fun l x => secPut l x.1 (secAt img x.1)) l
theorem backL_next (img l : List UInt8) (ws : List (Nat × List UInt8)) (k : Nat) (x : Nat × List UInt8) (h : ws[k]? = some x) : backL img l (ws.take (k + 1)) = secPut (backL img l (ws.take k)) x.1 (secAt img x.1) := by
  unfold backL
  rw [List.take_add_one, h, List.foldl_append]; rfl
theorem backL_length {img l : List UInt8} {n : Nat} (ws : List (Nat × List UInt8)) (hi : img.length = 64 * n) (hl : l.length = 64 * n) (h : ∀ x ∈ ws, x.1 < n) : (backL img l ws).length = 64 * n := by
  induction ws generalizing l with
  | nil => exact hl
  | cons x ws ih => exact ih (secPut_length hl (h x (by simp)) (secAt_length hi (h x (by simp)))) (fun y hy => h y (by simp [hy]))
def backS (s : DS) : DS := { s with now := backL s.img s.now s.loose, loose := [] }
theorem back_ok {s : DS} (h : s.OK) : (backS s).OK := ⟨backL_length _ h.n2 h.n1 (fun x hx => (h.lo x hx).1), h.n2, h.nb, by simp [backS]⟩
attribute [local go_sem] steady
attribute [local irreducible] wpPhase
section
variable (base g a m c : Nat) (A : Option Addr) (q : Option Nat) (s : DS) (w : World)
set_option maxRecDepth 20000 in
set_option maxHeartbeats 4000000 in
theorem forget_calls (h : DevIn w base g a m A c q s) (hok : s.OK) (hlo : s.loose.length ≤ 1000000) :
    Calls Try.prog 78 #[.pointer (some ⟨g, 1, none⟩)] w (InPost w base g a m A q (backS s) (.tuple #[])) := by
  have c3 := h.hd.cell 3 rfl
  have HH := hid h; have HOK := hid hok
  have hnb := hok.nb
  clear h hok
  go_enter Try.func78, Try.ntmps78
  go_wp2_with fail
  go_loopw [9] (fun i wr => ∃ k : Nat, k ≤ s.loose.length ∧ i = .int .i64 (k : Int) ∧ DevIn wr base g a m A c q { s with now := backL s.img s.now (s.loose.take k) } ∧ Chg [a] w wr) (fun i _ => s.loose.length - (intOf i).toNat)
  case atStart => exact ⟨0, Nat.zero_le _, rfl, HH.out, Chg.refl _ _⟩
  case round =>
    clear c3
    obtain ⟨k, hk, rfl, hd, hc⟩ := hrel
    have HD := hid hd; have HC := hid hc; clear hd hc
    by_cases hlt : k < s.loose.length
    · obtain ⟨b, cap, hv, -, -⟩ := World.ownsRow.form HD.out.row (by show 0 < s.loose.length; omega)
      injection hv with h1 h2 h3
      subst h1 h3
      obtain ⟨x, hx⟩ : ∃ x, s.loose[k]? = some x := ⟨s.loose[k], List.getElem?_eq_getElem hlt⟩
      have hxo := HOK.out.lo x (List.mem_of_getElem? hx)
      have HX := hid hx; have HXO := hid hxo
      have LD := hid (load_loose HD.out.row (fun y hy => (HOK.out.lo y hy).2) hx)
      have hx1 := hxo.1
      have ST := hid (store_write_new (Blk.new wr 106 zl.toArray) (by rfl) hxo.2)
      have NS := hid (new_set wr 106 zl.toArray (lcell x).toArray)
      clear hx hxo h2
      go_wp2_with (first
        | (refine wpList_load_run rfl 106 _ rfl ⟨b, k * 65, none⟩ (.agg (lcell x).toArray) rfl LD.out ?_)
        | (refine wpList_alloc_blk rfl 106 rfl zw zero_write ?_)
        | (refine wpList_store_run rfl 106 _ _ rfl ⟨wr.heap.size, 0, none⟩ (.agg (lcell x).toArray) rfl rfl ST.out ?_))
      have hb1 := NS.out.1
      have k1 := NS.out.2
      generalize (wr.alloc (.cells zl.toArray 106)).setRow wr.heap.size (lcell x).toArray = w1 at hb1 k1 ⊢
      have h1 := HD.out.keep hb1
      have B1 := hid hb1; have K1 := hid k1; have H1 := hid h1
      clear hb1 k1 h1 LD ST NS HD
      go_wp2_with fail
      refine wp_region_phaseT (fun _ => false) 14 (fun _ w' => w' = w1.drew) (fun w' => DevIn w' base g a m (some ⟨b, 0, none⟩) c q { s with now := backL s.img s.now (s.loose.take k) } ∧ Blk w' wr.heap.size 106 (lcell x).toArray) (fun _ w' h => h ▸ ⟨H1.out.drew, K1.out.drew⟩) (by kernel_rfl) (by kernel_rfl) (by kernel_rfl) rfl ?_
      intro S _ at_ hS
      have c1 := fun x => (hS x).1.hd.cell 1 rfl
      have c2 := fun x => (hS x).1.hd.cell 2 rfl
      have c0 := fun y => (hS y).2.cell 0 (v := .int .i64 (x.1 : Int)) (by simp [lcell])
      have HS := hid hS
      clear hS
      simp only [List.take_succ_cons, List.take_zero]
      (refine phase_plain rfl (fun K hK => ?_); go_simp; refine hK _ ?_; clear hK K)
      (refine phase_plain rfl (fun K hK => ?_); go_simp; refine hK _ ?_; clear hK K)
      (refine phase_plain rfl (fun K hK => ?_); go_simp; refine hK _ ?_; clear hK K)
      (refine phase_plain rfl (fun K hK => ?_); go_simp; refine hK _ ?_; clear hK K)
      (refine phase_plain rfl (fun K hK => ?_); go_simp; refine hK _ ?_; clear hK K)
      (refine phase_plain rfl (fun K hK => ?_); go_simp; refine hK _ ?_; clear hK K)
      (refine phase_plain rfl (fun K hK => ?_); go_simp; refine hK _ ?_; clear hK K)
      (refine phase_plain rfl (fun K hK => ?_); go_simp; refine hK _ ?_; clear hK K)
      (refine phase_plain rfl (fun K hK => ?_); go_simp; refine hK _ ?_; clear hK K)
      (refine phase_plain rfl (fun K hK => ?_); go_simp; refine hK _ ?_; clear hK K)
      (refine phase_plain rfl (fun K hK => ?_); go_simp; refine hK _ ?_; clear hK K)
      (refine phase_plain rfl (fun K hK => ?_); go_simp; refine hK _ ?_; clear hK K)
      (refine phase_plain rfl (fun K hK => ?_); go_simp; refine hK _ ?_; clear hK K)
      refine phase_load_run rfl rfl 104 _ rfl ⟨m, x.1 * 64, none⟩ rfl (.agg (bcs (secAt s.img x.1)).toArray) (by rintro w' ⟨y, rfl⟩; exact load_sb (sec_sb _ (HS.out y).1.img HOK.out.n2 HXO.out.1)) ?_
      refine phase_nil ?_
      rintro _ rfl
      have Hst := hid (store_sector (H1.out.drew).now (backL_length (s.loose.take k) HOK.out.n2 HOK.out.n1 (fun y hy => (HOK.out.lo y (List.mem_of_mem_take hy)).1)) HXO.out.1 (secAt_length HOK.out.n2 HXO.out.1))
      clear c0 c1 c2 HS
      simp only [List.drop_succ_cons, List.drop_zero]
      go_wp2_with (refine wpList_store_run rfl 104 _ _ rfl ⟨a, x.1 * 64, none⟩ (.agg (bcs (secAt s.img x.1)).toArray) rfl rfl Hst.out ?_)
      have h2 := H1.out.drew.setNow (secPut (backL s.img s.now (s.loose.take k)) x.1 (secAt s.img x.1))
      have hc2 := chg_setRow (w := w1.drew) (d := a) (L := [a]) (by simp) (bcs (secPut (backL s.img s.now (s.loose.take k)) x.1 (secAt s.img x.1))).toArray
      have H2 := hid h2
      have C2 := hid (HC.out.trans ((Chg.of_below (L := [a]) B1.out).trans hc2.from_drew (fun b hb => .inl hb)) (fun b hb => .inl hb))
      generalize w1.drew.setRow a (bcs (secPut (backL s.img s.now (s.loose.take k)) x.1 (secAt s.img x.1))).toArray = w2 at H2 C2 ⊢
      clear h2 hc2 Hst H1 K1 B1 HC hx1
      go_wp2_with fail
      go_roundw
      case rel => exact ⟨k + 1, by omega, by go_num, by rw [backL_next _ _ _ _ _ HX.out]; exact H2.out, C2.out⟩
      case measure => simp [intOf]; omega
    · obtain rfl : k = s.loose.length := by omega
      have h1 := HD.out
      rw [List.take_length] at h1
      have h2 := h1.clear3
      have c3 := h1.hd.cell 3 rfl
      have f3 := h1.hd.frozen 3
      have HK := hid (show InPost w base g a m A q (backS s) (.tuple #[]) (.returned (.tuple #[])) (wr.setCell ⟨g, 3, none⟩ (.slice none 0 0)) from
        ⟨rfl, _, _, _, h2, (HC.out.more (L' := fpL g a m A q) (fun b hb => .inl (by simp at hb; simp [fpL, hb]))).trans (chg_set (by simp [fpL]) 3 _) (fun b hb => .inl hb), .inr (fun f hf => by cases hf), .inl rfl⟩)
      clear h1 h2 HD HC HH
      go_wp2_with fail
      go_end0
      exact HK.out
end
end Go.Proofs.Ytiejndkchcljdaa
/- Contract: a disk's crash. -/
namespace Go.Proofs.Ytiejndkchcljdaa
open Go.RowKit

/-- In the world w the n cells from A on hold the truth values bs. -/
def KB (w : World) (A : Option Addr) (n : Nat) (bs : List Bool) : Prop :=
  bs.length = n ∧ (0 < n → ∃ b off, A = some ⟨b, off, none⟩ ∧ ∀ j x, bs[j]? = some x → w.cell? ⟨b, off + j, none⟩ = some (.bool x))
theorem KB.chg {w w' : World} {L : List Nat} {A : Option Addr} {n : Nat} {bs : List Bool} (h : KB w A n bs) (hc : Chg L w w') (hg : 0 < n → ∀ b off, A = some ⟨b, off, none⟩ → b ∉ L) : KB w' A n bs :=
  ⟨h.1, fun hn => by
    obtain ⟨b, off, e, hx⟩ := h.2 hn
    exact ⟨b, off, e, fun j x hj => cell_chg (hx j x hj) hc (hg hn b off e)⟩⟩
theorem KB.keep {w w' : World} {A : Option Addr} {n : Nat} {bs : List Bool} (h : KB w A n bs) (hb : Below w.heap.size w w') : KB w' A n bs := h.chg (L := []) (Chg.of_below hb) (fun _ _ _ _ => by simp)
theorem KB.lt {w : World} {A : Option Addr} {n : Nat} {bs : List Bool} (h : KB w A n bs) (hn : 0 < n) (b off : Nat) (e : A = some ⟨b, off, none⟩) : b < w.heap.size := by
  obtain ⟨b', off', e', hx⟩ := h.2 hn
  rw [e] at e'; cases e'
  have hl : 0 < bs.length := by have := h.1; omega
  exact lt_of_cell (hx 0 _ (List.getElem?_eq_getElem hl))
def keptAt (keep : List Bool) (k : Nat) : Bool := (keep[k]?).getD false
/-- what is kept, made on the image; and which one was lost last -/
def crashP (img : List UInt8) (ws : List (Nat × List UInt8)) (keep : List Bool) (k : Nat) : List UInt8 × Int :=
  (List.range k).foldl (fun p j => match ws[j]? with | some x => if keptAt keep j = true then (secPut p.1 x.1 x.2, p.2) else (p.1, (j : Int)) | none => p) (img, -1)
theorem crashP_next (img : List UInt8) (ws : List (Nat × List UInt8)) (keep : List Bool) (k : Nat) (x : Nat × List UInt8) (h : ws[k]? = some x) :
    crashP img ws keep (k + 1) = if keptAt keep k = true then (secPut (crashP img ws keep k).1 x.1 x.2, (crashP img ws keep k).2) else ((crashP img ws keep k).1, (k : Int)) := by
  unfold crashP
  rw [List.range_succ, List.foldl_append]
  simp [h]
theorem crashP_ok {img : List UInt8} {ws : List (Nat × List UInt8)} {n : Nat} (keep : List Bool) (hl : img.length = 64 * n) (h : ∀ x ∈ ws, x.1 < n ∧ x.2.length = 64) (k : Nat) (hk : k ≤ ws.length) :
    (crashP img ws keep k).1.length = 64 * n ∧ -1 ≤ (crashP img ws keep k).2 ∧ (crashP img ws keep k).2 < k := by
  induction k with
  | zero => exact ⟨hl, by simp [crashP], by simp [crashP]⟩
  | succ k ih =>
    obtain ⟨h1, h2, h3⟩ := ih (by omega)
    obtain ⟨x, hx⟩ : ∃ x, ws[k]? = some x := ⟨ws[k], List.getElem?_eq_getElem (by omega)⟩
    have hxo := h x (List.mem_of_getElem? hx)
    rw [crashP_next _ _ _ _ _ hx]
    split
    · exact ⟨secPut_length h1 hxo.1 hxo.2, h2, by push_cast; omega⟩
    · exact ⟨h1, by push_cast; omega, by push_cast; omega⟩
/-- the front of a write, made on sectors -/
def tear (l : List UInt8) (i : Nat) (b : List UInt8) (t : Nat) : List UInt8 := l.take (i * 64) ++ (b.take t ++ l.drop (i * 64 + t))
theorem tear_length {l b : List UInt8} {i n t : Nat} (h : l.length = 64 * n) (hi : i < n) (hb : b.length = 64) (ht : t ≤ 64) : (tear l i b t).length = 64 * n := by
  simp [tear, hb]; omega
/-- the image behind a crash -/
def crashI (img : List UInt8) (ws : List (Nat × List UInt8)) (keep : List Bool) (t : Nat) : List UInt8 :=
  match ws[(crashP img ws keep ws.length).2.toNat]? with
  | some x => if 0 ≤ (crashP img ws keep ws.length).2 then tear (crashP img ws keep ws.length).1 x.1 x.2 t else (crashP img ws keep ws.length).1
  | none => (crashP img ws keep ws.length).1
theorem crashI_length {img : List UInt8} {ws : List (Nat × List UInt8)} {n : Nat} (keep : List Bool) (hl : img.length = 64 * n) (h : ∀ x ∈ ws, x.1 < n ∧ x.2.length = 64) {t : Nat} (ht : t ≤ 64) : (crashI img ws keep t).length = 64 * n := by
  have h1 := (crashP_ok keep hl h ws.length (Nat.le_refl _)).1
  unfold crashI
  split
  · rename_i x hx
    have hxo := h x (List.mem_of_getElem? hx)
    split
    · exact tear_length h1 hxo.1 hxo.2 ht
    · exact h1
  · exact h1
theorem crashI_pos {img : List UInt8} {ws : List (Nat × List UInt8)} {keep : List Bool} {t l : Nat} {p1 : List UInt8} {x : Nat × List UInt8} (hp : crashP img ws keep ws.length = (p1, (l : Int))) (hx : ws[l]? = some x) : crashI img ws keep t = tear p1 x.1 x.2 t := by
  unfold crashI; rw [hp]; simp [hx]
theorem crashI_neg {img : List UInt8} {ws : List (Nat × List UInt8)} {keep : List Bool} {t : Nat} (hp : ¬ 0 ≤ (crashP img ws keep ws.length).2) : crashI img ws keep t = (crashP img ws keep ws.length).1 := by
  unfold crashI; split
  · rw [if_neg hp]
  · rfl
theorem tear_cells (l b : List UInt8) (i t : Nat) (hb : b.length = 64) (ht : t ≤ 64) : ((bcs l).toArray.toList.take (i * 64) ++ (bcs (b.take t) ++ (bcs l).toArray.toList.drop (i * 64 + (bcs (b.take t)).length))).toArray = (bcs (tear l i b t)).toArray := by
  have : (bcs (b.take t)).length = t := by simp [bcs, hb]; omega
  rw [this]
  simp [tear, bcs]
/-- what a disk's crash leaves -/
def brokeS (s : DS) (keep : List Bool) (t : Nat) : DS := backS { s with img := crashI s.img s.loose keep t }
theorem broke_ok {s : DS} (h : s.OK) (keep : List Bool) {t : Nat} (ht : t ≤ 64) : (brokeS s keep t).OK := back_ok ⟨h.n1, crashI_length keep h.n2 h.lo ht, h.nb, h.lo⟩
theorem ix_bool (b off n c k : Nat) (h : k < n) (W : World) : (Instr.indexAt 35 (.slice (some ⟨b, off, none⟩) n c) (.int .i64 (k : Int))).run Try.prog W = .ok (.pointer (some ⟨b, off + k, none⟩)) W := by
  have hi : (Try.prog.info? 4).map (·.size) = some 1 := by kernel_rfl
  obtain ⟨i, hi, hs⟩ := Option.map_eq_some_iff.1 hi
  rw [run_indexAt_slice W _ _ _ _ _ _ (by kernel_rfl), if_pos ⟨by omega, by omega⟩]
  rw [show Try.prog.elem 35 = 4 from by kernel_rfl]
  simp [sizeOf, typeInfo, hi, hs, Addr.add_lit]
attribute [local go_sem] steady
attribute [local irreducible] wpPhase
section
variable (base g a m c : Nat) (A : Option Addr) (q : Option Nat) (s : DS) (w : World)
set_option maxRecDepth 20000 in
set_option maxHeartbeats 8000000 in
theorem dcrash_calls (nk ck : Nat) (Ak : Option Addr) (keep : List Bool) (t : Nat) (h : DevIn w base g a m A c q s) (hok : s.OK) (hlo : s.loose.length ≤ 1000000) (hkb : KB w Ak nk keep) (hne : 0 < nk → ∀ b off, Ak = some ⟨b, off, none⟩ → b ≠ m) (hnk : nk ≤ 1099511627776) (ht : t < 64) :
    Calls Try.prog 60 #[.pointer (some ⟨g, 1, none⟩), .slice Ak nk ck, .int .i64 (t : Int)] w (InPost w base g a m A q (brokeS s keep t) (.tuple #[])) := by
  have c3 := h.hd.cell 3 rfl
  have HH := hid h; have HOK := hid hok; have HKB := hid hkb; have HNE := hid hne
  have hnb := hok.nb
  clear h hok hkb hne
  go_enter Try.func60, Try.ntmps60
  go_wp2_with fail
  go_loopw [6, 15] (fun l i wr => ∃ k : Nat, k ≤ s.loose.length ∧ i = .int .i64 (k : Int) ∧ l = .int .i64 (crashP s.img s.loose keep k).2 ∧ DevIn wr base g a m A c q { s with img := (crashP s.img s.loose keep k).1 } ∧ Chg [m] w wr) (fun _ i _ => s.loose.length - (intOf i).toNat)
  case atStart => exact ⟨0, Nat.zero_le _, rfl, rfl, HH.out, Chg.refl _ _⟩
  case round =>
    clear c3
    obtain ⟨k, hk, rfl, rfl, hd, hc⟩ := hrel
    have HP := hid (crashP_ok keep HOK.out.n2 HOK.out.lo k hk)
    have HD := hid hd; have HC := hid hc; clear hd hc
    by_cases hlt : k < s.loose.length
    · obtain ⟨b, cap, hv, -, -⟩ := World.ownsRow.form HD.out.row (by show 0 < s.loose.length; omega)
      injection hv with h1 h2 h3
      subst h1 h3
      obtain ⟨x, hx⟩ : ∃ x, s.loose[k]? = some x := ⟨s.loose[k], List.getElem?_eq_getElem hlt⟩
      have hxo := HOK.out.lo x (List.mem_of_getElem? hx)
      have HXO := hid hxo
      have HN := hid (crashP_next s.img s.loose keep k x hx)
      have LD := hid (load_loose HD.out.row (fun y hy => (HOK.out.lo y hy).2) hx)
      have hx1 := hxo.1
      have ST := hid (store_write_new (Blk.new wr 106 zl.toArray) (by rfl) hxo.2)
      have NS := hid (new_set wr 106 zl.toArray (lcell x).toArray)
      generalize hpp : crashP s.img s.loose keep k = p at HP HD HN
      have HPP := hid hpp
      clear hx hxo h2 hpp
      go_wp2_with (first
        | (refine wpList_load_run rfl 106 _ rfl ⟨b, k * 65, none⟩ (.agg (lcell x).toArray) rfl LD.out ?_)
        | (refine wpList_alloc_blk rfl 106 rfl zw zero_write ?_)
        | (refine wpList_store_run rfl 106 _ _ rfl ⟨wr.heap.size, 0, none⟩ (.agg (lcell x).toArray) rfl rfl ST.out ?_))
      · have hkn : k < nk := ‹k < nk›
        have hb1 := NS.out.1
        have k1 := NS.out.2
        generalize (wr.alloc (.cells zl.toArray 106)).setRow wr.heap.size (lcell x).toArray = w1 at hb1 k1 ⊢
        have h1 := HD.out.keep hb1
        have LD1 := hid (fun W (hW : Blk W wr.heap.size 106 (lcell x).toArray) => load_sector hW HXO.out.2)
        have KB1 := hid ((HKB.out.chg HC.out (fun hn b off e => by simpa using HNE.out hn b off e)).keep hb1)
        have B1 := hid hb1; have K1 := hid k1; have H1 := hid h1
        clear hb1 k1 h1 LD ST NS HD
        by_cases hkk : keptAt keep k = true
        · have HN2 := hid (HN.out.trans (if_pos hkk))
          obtain ⟨b2, off2, rfl, hcell⟩ := KB1.out.2 (by omega)
          have hct : w1.cell? ⟨b2, off2 + k, none⟩ = some (.bool true) := hcell k true (by
            have hkl : k < keep.length := by have := HKB.out.1; omega
            unfold keptAt at hkk
            rw [List.getElem?_eq_getElem hkl] at hkk ⊢
            simpa using hkk)
          have hix := ix_bool b2 off2 nk ck k hkn
          clear hkk hcell HN
          go_wp2_with fail
          rw [hix]
          go_wp2_with fail
          refine wp_region_phaseT (fun _ => false) 8 (fun _ w' => w' = w1.drew) (fun w' => DevIn w' base g a m (some ⟨b, 0, none⟩) c q { s with img := p.1 } ∧ Blk w' wr.heap.size 106 (lcell x).toArray) (fun _ w' h => h ▸ ⟨H1.out.drew, K1.out.drew⟩) (by kernel_rfl) (by kernel_rfl) (by kernel_rfl) rfl ?_
          intro S _ at_ hS
          have c1 := fun x => (hS x).1.hd.cell 2 rfl
          have c0 := fun y => (hS y).2.cell 0 (v := .int .i64 (x.1 : Int)) (by simp [lcell])
          have HS := hid hS
          clear hS
          simp only [List.take_succ_cons, List.take_zero]
          (refine phase_plain rfl (fun K hK => ?_); go_simp; refine hK _ ?_; clear hK K)
          (refine phase_plain rfl (fun K hK => ?_); go_simp; refine hK _ ?_; clear hK K)
          (refine phase_plain rfl (fun K hK => ?_); go_simp; refine hK _ ?_; clear hK K)
          (refine phase_plain rfl (fun K hK => ?_); go_simp; refine hK _ ?_; clear hK K)
          (refine phase_plain rfl (fun K hK => ?_); go_simp; refine hK _ ?_; clear hK K)
          (refine phase_plain rfl (fun K hK => ?_); go_simp; refine hK _ ?_; clear hK K)
          (refine phase_plain rfl (fun K hK => ?_); go_simp; refine hK _ ?_; clear hK K)
          refine phase_load_run rfl rfl 104 _ rfl ⟨wr.heap.size, 1, none⟩ rfl (.agg (bcs x.2).toArray) (by rintro w' ⟨y, rfl⟩; exact LD1.out _ (HS.out y).2) ?_
          refine phase_nil ?_
          rintro _ rfl
          have Hst := hid (store_sector (H1.out.drew).img HP.out.1 HXO.out.1 HXO.out.2)
          clear c0 c1 HS
          simp only [List.drop_succ_cons, List.drop_zero]
          go_wp2_with (refine wpList_store_run rfl 104 _ _ rfl ⟨m, x.1 * 64, none⟩ (.agg (bcs x.2).toArray) rfl rfl Hst.out ?_)
          have h2 := H1.out.drew.setImg (secPut p.1 x.1 x.2)
          have hc2 := chg_setRow (w := w1.drew) (d := m) (L := [m]) (by simp) (bcs (secPut p.1 x.1 x.2)).toArray
          have H2 := hid h2
          have C2 := hid (HC.out.trans ((Chg.of_below (L := [m]) B1.out).trans hc2.from_drew (fun b hb => .inl hb)) (fun b hb => .inl hb))
          generalize w1.drew.setRow m (bcs (secPut p.1 x.1 x.2)).toArray = w2 at H2 C2 ⊢
          clear h2 hc2 Hst H1 K1 B1 LD1 HC hx1 KB1 hct hix
          go_wp2_with fail
          go_roundw
          case rel => exact ⟨k + 1, by omega, by go_num, by rw [HN2.out], by rw [HN2.out]; exact H2.out, C2.out⟩
          case measure => simp [intOf]; omega
        · have HN2 := hid (HN.out.trans (if_neg hkk))
          have HRD := hid (show DevIn w1 base g a m (some ⟨b, 0, none⟩) c q { s with img := p.1 } ∧ Chg [m] w w1 from ⟨H1.out, HC.out.trans (Chg.of_below (L := [m]) B1.out) (fun b hb => .inl hb)⟩)
          · obtain ⟨b2, off2, rfl, hcell⟩ := KB1.out.2 (by omega)
            have hct : w1.cell? ⟨b2, off2 + k, none⟩ = some (.bool false) := hcell k false (by
              have hkl : k < keep.length := by have := HKB.out.1; omega
              unfold keptAt at hkk
              rw [List.getElem?_eq_getElem hkl] at hkk ⊢
              simpa using hkk)
            have hix := ix_bool b2 off2 nk ck k hkn
            clear hkk hcell HN H1 K1 B1 LD1 HC hx1 KB1
            go_wp2_with fail
            rw [hix]
            go_wp2_with fail
            go_roundw
            case rel => exact ⟨k + 1, by omega, by go_num, by rw [HN2.out], by rw [HN2.out]; exact HRD.out.1, HRD.out.2⟩
            case measure => simp [intOf]; omega
      · have hkn : ¬ k < nk := ‹¬ k < nk›
        have HN2 := hid (HN.out.trans (if_neg (by unfold keptAt; rw [List.getElem?_eq_none (by have := HKB.out.1; omega)]; simp)))
        have HRD := hid (show DevIn ((wr.alloc (.cells zl.toArray 106)).setRow wr.heap.size (lcell x).toArray) base g a m (some ⟨b, 0, none⟩) c q { s with img := p.1 } ∧ Chg [m] w ((wr.alloc (.cells zl.toArray 106)).setRow wr.heap.size (lcell x).toArray) from ⟨HD.out.keep NS.out.1, HC.out.trans (Chg.of_below (L := [m]) NS.out.1) (fun b hb => .inl hb)⟩)
        go_roundw
        case rel => exact ⟨k + 1, by omega, by go_num, by rw [HN2.out], by rw [HN2.out]; exact HRD.out.1, HRD.out.2⟩
        case measure => simp [intOf]; omega
    · obtain rfl : k = s.loose.length := by omega
      have HFG := hid (fun w' (img : List UInt8) (hl : img.length = 64 * s.n) (h : DevIn w' base g a m A c q { s with img := img }) => forget_calls base g a m c A q { s with img := img } w' h ⟨HOK.out.n1, hl, HOK.out.nb, HOK.out.lo⟩ hlo)
      have HIL := hid (crashI_length keep HOK.out.n2 HOK.out.lo (Nat.le_of_lt ht))
      generalize hpp : crashP s.img s.loose keep s.loose.length = p at HP HD
      have HPP := hid hpp
      clear hpp
      by_cases hl0 : 0 ≤ p.2
      · have hl1 := HP.out.2.2
        obtain ⟨l, hl⟩ : ∃ l : Nat, p.2 = (l : Int) := ⟨p.2.toNat, by omega⟩
        obtain ⟨p1, p2⟩ := p
        simp only at hl hl0 hl1
        subst hl
        have hll : l < s.loose.length := by omega
        obtain ⟨b, cap, hv, -, -⟩ := World.ownsRow.form HD.out.row (by show 0 < s.loose.length; omega)
        injection hv with h1 h2 h3
        subst h1 h3
        obtain ⟨x, hx⟩ : ∃ x, s.loose[l]? = some x := ⟨s.loose[l], List.getElem?_eq_getElem hll⟩
        have hxo := HOK.out.lo x (List.mem_of_getElem? hx)
        have HXO := hid hxo
        have HI2 := hid (crashI_pos (t := t) HPP.out hx)
        have HFF := hid (fun w' (h : DevIn w' base g a m (some ⟨b, 0, none⟩) c q { s with img := tear p1 x.1 x.2 t }) => HFG.out w' _ (tear_length HP.out.1 hxo.1 hxo.2 (Nat.le_of_lt ht)) h)
        have HKK := hid (fun w1 w' (hc : Chg [m] wr w1) (h : InPost w1 base g a m (some ⟨b, 0, none⟩) q (backS { s with img := tear p1 x.1 x.2 t }) (.tuple #[]) (.returned (.tuple #[])) w') => show InPost w base g a m (some ⟨b, 0, none⟩) q (brokeS s keep t) (.tuple #[]) (.returned (.tuple #[])) w' from by
          unfold brokeS; rw [HI2.out]
          exact InPost.trans ((HC.out.trans hc (fun b hb => .inl hb)).more (fun b hb => .inl (by simp at hb; simp [fpL, hb]))) (MovedQ.refl _ _) (MovedQ.refl _ _) h)
        have HCX := hid (fun (W : World) (hr : W.ownsRow base 106 65 (.slice (some ⟨b, 0, none⟩) s.loose.length c) s.loose.length (lcells s.loose)) j v (hj : (lcell x)[j]? = some v) => show W.cell? ⟨b, l * 65 + j, none⟩ = some v from by
          have := World.ownsRow.cells hr (g := b) rfl (l * 65 + j) v (lcells_at s.loose (fun y hy => (HOK.out.lo y hy).2) l x hx j v hj)
          simpa [Addr.add_lit] using this)
        have hx1 := hxo.1
        have c3 := HD.out.hd.cell 3 rfl
        have ht1 : (t : Int) ≤ 64 := by omega
        have ht2 : t ≤ 64 := by omega
        have ht3 : (0 : Int) ≤ (t : Int) := by omega
        clear HFG HIL HI2 HPP HC HH HKB HNE hx hxo h2 hk
        go_wp2_with fail
        refine wp_region_phaseT (fun _ => false) 15 (fun _ w' => w' = wr.drew) (fun w' => DevIn w' base g a m (some ⟨b, 0, none⟩) c q { s with img := p1 }) (fun _ w' h => h ▸ HD.out.drew) (by kernel_rfl) (by kernel_rfl) (by kernel_rfl) rfl ?_
        intro S _ at_ hS
        have c1 := fun y => (hS y).hd.cell 2 rfl
        have c0 := fun y => HCX.out _ (hS y).row 0 (.int .i64 (x.1 : Int)) rfl
        simp only [Nat.add_zero] at c0
        clear hS
        simp only [List.take_succ_cons, List.take_zero]
        (refine phase_plain rfl (fun K hK => ?_); go_simp; refine hK _ ?_; clear hK K)
        (refine phase_plain rfl (fun K hK => ?_); go_simp; refine hK _ ?_; clear hK K)
        (refine phase_plain rfl (fun K hK => ?_); go_simp; refine hK _ ?_; clear hK K)
        (refine phase_plain rfl (fun K hK => ?_); go_simp; refine hK _ ?_; clear hK K)
        (refine phase_plain rfl (fun K hK => ?_); go_simp; refine hK _ ?_; clear hK K)
        (refine phase_plain rfl (fun K hK => ?_); go_simp; refine hK _ ?_; clear hK K)
        (refine phase_plain rfl (fun K hK => ?_); go_simp; refine hK _ ?_; clear hK K)
        (refine phase_plain rfl (fun K hK => ?_); go_simp; refine hK _ ?_; clear hK K)
        (refine phase_plain rfl (fun K hK => ?_); go_simp; refine hK _ ?_; clear hK K)
        (refine phase_plain rfl (fun K hK => ?_); go_simp; refine hK _ ?_; clear hK K)
        (refine phase_plain rfl (fun K hK => ?_); go_simp; refine hK _ ?_; clear hK K)
        (refine phase_plain rfl (fun K hK => ?_); go_simp; refine hK _ ?_; clear hK K)
        (refine phase_plain rfl (fun K hK => ?_); go_simp; refine hK _ ?_; clear hK K)
        (refine phase_plain rfl (fun K hK => ?_); go_simp; refine hK _ ?_; clear hK K)
        (refine phase_plain rfl (fun K hK => ?_); go_simp; refine hK _ ?_; clear hK K)
        refine phase_nil ?_
        rintro _ rfl
        clear c0 c1
        simp only [List.drop_succ_cons, List.drop_zero]
        have hsrc := HCX.out _ HD.out.drew.row
        have HSRC := hid (fun j v (hj : (bcs (x.2.take t))[j]? = some v) => show wr.drew.cell? ((⟨b, l * 65 + 1, none⟩ : Addr).add j) = some v from by
          rw [Addr.add_lit, Nat.add_assoc, Nat.add_comm 1 j]
          refine hsrc (j + 1) v ?_
          simp only [lcell, List.getElem?_cons_succ, bcs, List.getElem?_map, List.getElem?_take] at hj ⊢
          split at hj
          · exact hj
          · simp at hj)
        have HLN := hid (show (bcs (x.2.take t)).length = t from by rw [bcs_length, List.length_take, HXO.out.2]; omega)
        have HIM := hid (show wr.drew.heap[m]? = some (.cells (bcs p1).toArray 104 (0, 0)) from HD.out.img.drew)
        have HFT := hid (show x.1 * 64 + (bcs (x.2.take t)).length ≤ (bcs p1).toArray.size from by
          have h1 : p1.length = 64 * s.n := HP.out.1
          have h2 := HXO.out.1
          rw [HLN.out, List.size_toArray, bcs_length, h1]; omega)
        have hh2 := HD.out.drew.setImg (tear p1 x.1 x.2 t)
        have hc2 := chg_setRow (w := wr.drew) (d := m) (L := [m]) (by simp) (bcs (tear p1 x.1 x.2 t)).toArray
        have HF2 := hid (HFF.out _ hh2)
        have HK2 := hid (fun w' => HKK.out _ w' hc2.from_drew)
        have HTC := hid (tear_cells p1 x.2 x.1 t HXO.out.2 (Nat.le_of_lt ht))
        clear hsrc hh2 hc2 HFF HKK HCX
        go_wp2_with (refine wpList_copy_own rfl _ _ 34 34 rfl 5 Try.underlying34 (by kernel_rfl) m (x.1 * 64) _ _ ⟨b, l * 65 + 1, none⟩ _ _ rfl rfl (bcs p1).toArray 104 HIM.out (bcs (x.2.take t)) (by rw [HLN.out]; show t = min 64 t; omega) HSRC.out HFT.out (bcs_oneCell _) ?_)
        rw [HTC.out]
        go_wp2_with fail
        refine HF2.out.mono ?_
        rintro _ w2 ⟨rfl, hp⟩
        have HK := hid (HK2.out w2 ⟨rfl, hp⟩)
        clear hp HK2
        go_wp2_with fail
        go_end0
        exact HK.out
      · have hl1 : ¬ 0 ≤ p.2 := hl0
        have HI2 := hid (show crashI s.img s.loose keep t = p.1 from (crashI_neg (by rw [HPP.out]; exact hl0)).trans (by rw [HPP.out]))
        have HFF := hid (HFG.out wr p.1 HP.out.1 HD.out)
        have HKK := hid (fun w' (h : InPost wr base g a m A q (backS { s with img := p.1 }) (.tuple #[]) (.returned (.tuple #[])) w') => show InPost w base g a m A q (brokeS s keep t) (.tuple #[]) (.returned (.tuple #[])) w' from by
          unfold brokeS; rw [HI2.out]
          exact InPost.trans (HC.out.more (fun b hb => .inl (by simp at hb; simp [fpL, hb]))) (MovedQ.refl _ _) (MovedQ.refl _ _) h)
        clear HFG HIL HI2 HPP HP HC HD HH HKB HNE
        go_wp2_with fail
        refine HFF.out.mono ?_
        rintro _ w2 ⟨rfl, hp⟩
        have HK := hid (HKK.out w2 ⟨rfl, hp⟩)
        clear hp HKK
        go_wp2_with fail
        go_end0
        exact HK.out
end
end Go.Proofs.Ytiejndkchcljdaa
