/- Contracts: a disk's flush; a device's Flush. -/
import Derived.Test.YtiejndkchcljdaaDvWriteC
import Derived.Test.YtiejndkchcljdaaNewSet
namespace Go.Proofs.Ytiejndkchcljdaa
open Go.RowKit

/-- writes, made on sectors -/
def flushL (l : List UInt8) (ws : List (Nat × List UInt8)) : List UInt8 := ws.foldl (fun l x => secPut l x.1 x.2) l
theorem flushL_next (l : List UInt8) (ws : List (Nat × List UInt8)) (k : Nat) (x : Nat × List UInt8) (h : ws[k]? = some x) : flushL l (ws.take (k + 1)) = secPut (flushL l (ws.take k)) x.1 x.2 := by
  unfold flushL
  rw [List.take_add_one, h, List.foldl_append]; rfl
theorem flushL_length {l : List UInt8} {n : Nat} (ws : List (Nat × List UInt8)) (hl : l.length = 64 * n) (h : ∀ x ∈ ws, x.1 < n ∧ x.2.length = 64) : (flushL l ws).length = 64 * n := by
  induction ws generalizing l with
  | nil => exact hl
  | cons x ws ih => exact ih (secPut_length hl (h x (by simp)).1 (h x (by simp)).2) (fun y hy => h y (by simp [hy]))
/-- the variable of a loop over writes, set -/
theorem store_write_new {w : World} {b : Nat} {t : TypeId} {z : List Value} {x : Nat × List UInt8} (h : Blk w b t z.toArray) (hz : z.length = 65) (h64 : x.2.length = 64) :
    (storeVar 106 ⟨b, 0, none⟩ (.agg (lcell x).toArray)).run Try.prog w = .ok () (w.setRow b (lcell x).toArray) := by
  have := part_store (P := Try.prog) (pre := []) (post := []) (mid := z) (cs := lcell x) (by rw [part_whole]; exact h) 106 (off := 0) rfl (by rw [lcell_length h64]; exact size_write) (by rw [lcell_length h64, hz]) (fun u hu => by
    simp only [lcell, List.mem_cons] at hu
    rcases hu with rfl | hu
    · rfl
    · exact bcs_oneCell _ u hu)
  rw [part_whole] at this
  exact this
def zl : List Value := Value.int .i64 0 :: List.replicate 64 (.int .u8 0)
def zw : Value := .agg zl.toArray
theorem zero_write : (Try.prog.info? 106).map (·.zero) = some (some zw) := by kernel_rfl
/-- the k-th loose write, read out of its row -/
theorem load_loose {w : World} {base b len cap : Nat} {l : List (Nat × List UInt8)} (h : w.ownsRow base 106 65 (.slice (some ⟨b, 0, none⟩) len cap) len (lcells l)) (h64 : ∀ x ∈ l, x.2.length = 64) {k : Nat} {x : Nat × List UInt8} (hk : l[k]? = some x) :
    (loadVar 106 ⟨b, k * 65, none⟩).run Try.prog w = .ok (.agg (lcell x).toArray) w := by
  obtain ⟨d, h1, h2⟩ := underlying_write
  refine run_load_cells _ _ _ (fun j v hj => ?_) h1 h2 (by rw [lcell_length (h64 x (List.mem_of_getElem? hk))]; exact size_write)
  have := World.ownsRow.cells h (g := b) rfl (k * 65 + j) v (lcells_at l h64 k x hk j v hj)
  simpa [Addr.add_lit] using this
attribute [local go_sem] steady
attribute [local irreducible] wpPhase
def flushS (s : DS) : DS := { s with img := flushL s.img s.loose, loose := [] }
theorem flush_ok {s : DS} (h : s.OK) : (flushS s).OK := ⟨h.n1, flushL_length _ h.n2 h.lo, h.nb, by simp [flushS]⟩
/-- the loose writes, forgotten -/
theorem DevIn.clear3 {w : World} {base g a m c : Nat} {A : Option Addr} {q : Option Nat} {s : DS} (h : DevIn w base g a m A c q s) : DevIn (w.setCell ⟨g, 3, none⟩ (.slice none 0 0)) base g a m none 0 q { s with loose := [] } := by
  have hc : Chg [g] w (w.setCell ⟨g, 3, none⟩ (.slice none 0 0)) := chg_set (L := [g]) (by simp) 3 _
  exact { hd := h.hd.set_ 3 _, now := h.now.chg hc (by simpa using h.ga.symm), img := h.img.chg hc (by simpa using h.gm.symm), row := World.ownsRow_nil _ _ _ _,
          fz := h.fz.chg hc (fun f hf => by simpa using (h.qs f hf).1), ga := h.ga, gm := h.gm, am := h.am, rs := (fun b hb => by cases hb), qs := fun f hf => by simpa using h.qs f hf, hg := h.hg, ha := h.ha, hm := h.hm }
section
variable (base g a m c : Nat) (A : Option Addr) (q : Option Nat) (s : DS) (w : World)
set_option maxRecDepth 20000 in
set_option maxHeartbeats 4000000 in
theorem dflush_calls (h : DevIn w base g a m A c q s) (hok : s.OK) (hlo : s.loose.length ≤ 1000000) :
    Calls Try.prog 57 #[.pointer (some ⟨g, 1, none⟩)] w (InPost w base g a m A q (flushS s) (.tuple #[])) := by
  have c3 := h.hd.cell 3 rfl
  have HH := hid h; have HOK := hid hok
  have hnb := hok.nb
  clear h hok
  go_enter Try.func57, Try.ntmps57
  go_wp2_with fail
  go_loopw [9] (fun i wr => ∃ k : Nat, k ≤ s.loose.length ∧ i = .int .i64 (k : Int) ∧ DevIn wr base g a m A c q { s with img := flushL s.img (s.loose.take k) } ∧ Chg [m] w wr) (fun i _ => s.loose.length - (intOf i).toNat)
  case atStart => exact ⟨0, Nat.zero_le _, rfl, HH.out, Chg.refl _ _⟩
  case round =>
    clear c3
    obtain ⟨k, hk, rfl, hd, hc⟩ := hrel
    have HD := hid hd; have HC := hid hc; clear hd hc
    by_cases hlt : k < s.loose.length
    · obtain ⟨b, cap, hv, -, -⟩ := World.ownsRow.form HD.out.row (by show 0 < s.loose.length; omega)
      injection hv with h1 h2 h3
      subst h1 h3
      obtain ⟨x, hx⟩ : ∃ x, s.loose[k]? = some x := ⟨s.loose[k], List.getElem?_eq_getElem hlt⟩
      have hxo := HOK.out.lo x (List.mem_of_getElem? hx)
      have HX := hid hx; have HXO := hid hxo
      have LD := hid (load_loose HD.out.row (fun y hy => (HOK.out.lo y hy).2) hx)
      have hx1 := hxo.1
      have ST := hid (store_write_new (Blk.new wr 106 zl.toArray) (by rfl) hxo.2)
      have NS := hid (new_set wr 106 zl.toArray (lcell x).toArray)
      clear hx hxo h2
      go_wp2_with (first
        | (refine wpList_load_run rfl 106 _ rfl ⟨b, k * 65, none⟩ (.agg (lcell x).toArray) rfl LD.out ?_)
        | (refine wpList_alloc_blk rfl 106 rfl zw zero_write ?_)
        | (refine wpList_store_run rfl 106 _ _ rfl ⟨wr.heap.size, 0, none⟩ (.agg (lcell x).toArray) rfl rfl ST.out ?_))
      have hb1 := NS.out.1
      have k1 := NS.out.2
      generalize (wr.alloc (.cells zl.toArray 106)).setRow wr.heap.size (lcell x).toArray = w1 at hb1 k1 ⊢
      have h1 := HD.out.keep hb1
      have LD1 := hid (fun W (hW : Blk W wr.heap.size 106 (lcell x).toArray) => load_sector hW HXO.out.2)
      have B1 := hid hb1; have K1 := hid k1; have H1 := hid h1
      clear hb1 k1 h1 LD ST NS HD
      go_wp2_with fail
      refine wp_region_phaseT (fun _ => false) 8 (fun _ w' => w' = w1.drew) (fun w' => DevIn w' base g a m (some ⟨b, 0, none⟩) c q { s with img := flushL s.img (s.loose.take k) } ∧ Blk w' wr.heap.size 106 (lcell x).toArray) (fun _ w' h => h ▸ ⟨H1.out.drew, K1.out.drew⟩) (by kernel_rfl) (by kernel_rfl) (by kernel_rfl) rfl ?_
      intro S _ at_ hS
      have c1 := fun x => (hS x).1.hd.cell 2 rfl
      have c0 := fun y => (hS y).2.cell 0 (v := .int .i64 (x.1 : Int)) (by simp [lcell])
      have HS := hid hS
      clear hS
      simp only [List.take_succ_cons, List.take_zero]
      (refine phase_plain rfl (fun K hK => ?_); go_simp; refine hK _ ?_; clear hK K)
      (refine phase_plain rfl (fun K hK => ?_); go_simp; refine hK _ ?_; clear hK K)
      (refine phase_plain rfl (fun K hK => ?_); go_simp; refine hK _ ?_; clear hK K)
      (refine phase_plain rfl (fun K hK => ?_); go_simp; refine hK _ ?_; clear hK K)
      (refine phase_plain rfl (fun K hK => ?_); go_simp; refine hK _ ?_; clear hK K)
      (refine phase_plain rfl (fun K hK => ?_); go_simp; refine hK _ ?_; clear hK K)
      (refine phase_plain rfl (fun K hK => ?_); go_simp; refine hK _ ?_; clear hK K)
      refine phase_load_run rfl rfl 104 _ rfl ⟨wr.heap.size, 1, none⟩ rfl (.agg (bcs x.2).toArray) (by rintro w' ⟨y, rfl⟩; exact LD1.out _ (HS.out y).2) ?_
      refine phase_nil ?_
      rintro _ rfl
      have Hst := hid (store_sector (H1.out.drew).img (flushL_length (s.loose.take k) HOK.out.n2 (fun y hy => HOK.out.lo y (List.mem_of_mem_take hy))) HXO.out.1 HXO.out.2)
      clear c0 c1 HS
      simp only [List.drop_succ_cons, List.drop_zero]
      go_wp2_with (refine wpList_store_run rfl 104 _ _ rfl ⟨m, x.1 * 64, none⟩ (.agg (bcs x.2).toArray) rfl rfl Hst.out ?_)
      have h2 := H1.out.drew.setImg (secPut (flushL s.img (s.loose.take k)) x.1 x.2)
      have hc2 := chg_setRow (w := w1.drew) (d := m) (L := [m]) (by simp) (bcs (secPut (flushL s.img (s.loose.take k)) x.1 x.2)).toArray
      have H2 := hid h2
      have C2 := hid (HC.out.trans ((Chg.of_below (L := [m]) B1.out).trans hc2.from_drew (fun b hb => .inl hb)) (fun b hb => .inl hb))
      generalize w1.drew.setRow m (bcs (secPut (flushL s.img (s.loose.take k)) x.1 x.2)).toArray = w2 at H2 C2 ⊢
      clear h2 hc2 Hst H1 K1 B1 LD1 HC hx1
      go_wp2_with fail
      go_roundw
      case rel => exact ⟨k + 1, by omega, by go_num, by rw [flushL_next _ _ _ _ HX.out]; exact H2.out, C2.out⟩
      case measure => simp [intOf]; omega
    · obtain rfl : k = s.loose.length := by omega
      have h1 := HD.out
      rw [List.take_length] at h1
      have h2 := h1.clear3
      have c3 := h1.hd.cell 3 rfl
      have f3 := h1.hd.frozen 3
      have HK := hid (show InPost w base g a m A q (flushS s) (.tuple #[]) (.returned (.tuple #[])) (wr.setCell ⟨g, 3, none⟩ (.slice none 0 0)) from
        ⟨rfl, _, _, _, h2, (HC.out.more (L' := fpL g a m A q) (fun b hb => .inl (by simp at hb; simp [fpL, hb]))).trans (chg_set (by simp [fpL]) 3 _) (fun b hb => .inl hb), .inr (fun f hf => by cases hf), .inl rfl⟩)
      clear h1 h2 HD HC HH
      go_wp2_with fail
      go_end0
      exact HK.out
end
end Go.Proofs.Ytiejndkchcljdaa
