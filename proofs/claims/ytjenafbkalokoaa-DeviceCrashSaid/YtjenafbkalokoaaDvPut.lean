/- Contract: a disk's write. -/
import Derived.Test.YtjenafbkalokoaaDvWrite
namespace Go.Proofs.Ytjenafbkalokoaa
open Go.RowKit

/-- makes memory, or appends -/
def grows (o : Oper) : Bool := match o.op with
  | .buildSlice _ _ _ => true
  | _ => goCall o
attribute [local go_sem] steady
attribute [local irreducible] wpPhase
section
variable (base g a m c : Nat) (A : Option Addr) (q : Option Nat) (s : DS) (w : World)
set_option maxHeartbeats 2000000 in
theorem dwrite_calls (i : Nat) (bs : List UInt8) (h : DevIn w base g a m A c q s) (hok : s.OK) (hi : i < s.n) (h64 : bs.length = 64) (hlo : s.loose.length ≤ 1000000) (hbase : base ≤ w.heap.size) :
    Calls Try.prog 47 #[.pointer (some ⟨g, 1, none⟩), .agg (lcell (i, bs)).toArray] w (InPost w base g a m A q (putS s i bs) (.tuple #[])) := by
  have b1 := below_new w (.cells (lcell (i, bs)).toArray 78)
  have k1 := Blk.new w 78 (lcell (i, bs)).toArray
  have HLT := hid h.lt
  have h1 := h.keep b1
  have hnb := hok.nb
  have HOK := hid hok
  have HI := hid hi; have H64 := hid h64; have HLO := hid hlo; have HB := hid hbase
  clear h hok hlo hbase h64
  go_enter Try.func47, Try.ntmps47
  go_wp2_with (refine wpList_box_blk rfl 78 _ rfl (lcell (i, bs)).toArray rfl ?_)
  generalize w.alloc (.cells (lcell (i, bs)).toArray 78) = w1 at b1 k1 h1 ⊢
  have ld1 := fun W (hW : Blk W w.heap.size 78 (lcell (i, bs)).toArray) => load_sector hW H64.out
  have B1 := hid b1; have K1 := hid k1; have H1 := hid h1; have LD1 := hid ld1
  clear b1 k1 h1 ld1 hi
  go_wp2_with fail
  refine wp_region_phaseT (fun _ => false) 8 (fun _ w' => w' = w1.drew) (fun w' => DevIn w' base g a m A c q s ∧ Blk w' w.heap.size 78 (lcell (i, bs)).toArray) (fun _ w' h => h ▸ ⟨H1.out.drew, K1.out.drew⟩) (by kernel_rfl) (by kernel_rfl) (by kernel_rfl) rfl ?_
  intro S _ at_ hS
  have c1 := fun x => (hS x).1.hd.cell 1 rfl
  have c0 := fun x => (hS x).2.cell 0 (v := .int .i64 (i : Int)) (by simp [lcell])
  have HS := hid hS
  clear hS
  simp only [List.take_succ_cons, List.take_zero]
  (refine phase_plain rfl (fun K hK => ?_); go_simp; refine hK _ ?_; clear hK K)
  (refine phase_plain rfl (fun K hK => ?_); go_simp; refine hK _ ?_; clear hK K)
  (refine phase_plain rfl (fun K hK => ?_); go_simp; refine hK _ ?_; clear hK K)
  (refine phase_plain rfl (fun K hK => ?_); go_simp; refine hK _ ?_; clear hK K)
  (refine phase_plain rfl (fun K hK => ?_); go_simp; refine hK _ ?_; clear hK K)
  (refine phase_plain rfl (fun K hK => ?_); go_simp; refine hK _ ?_; clear hK K)
  (refine phase_plain rfl (fun K hK => ?_); go_simp; refine hK _ ?_; clear hK K)
  refine phase_load_run rfl rfl 72 _ rfl ⟨w.heap.size, 1, none⟩ rfl (.agg (bcs bs).toArray) (by rintro w' ⟨x, rfl⟩; exact LD1.out _ (HS.out x).2) ?_
  refine phase_nil ?_
  rintro _ rfl
  have hi := HI.out
  have hst := store_sector (H1.out.drew).now HOK.out.n1 HI.out H64.out
  have Hst := hid hst
  clear c0 c1 HS hst
  simp only [List.drop_succ_cons, List.drop_zero]
  go_wp2_with (refine wpList_store_run rfl 72 _ _ rfl ⟨a, i * 64, none⟩ (.agg (bcs bs).toArray) rfl rfl Hst.out ?_)
  have h2 := H1.out.drew.setNow (secPut s.now i bs)
  have hc2 := chg_setRow (w := w1.drew) (d := a) (L := fpL g a m A q) (by simp [fpL]) (bcs (secPut s.now i bs)).toArray
  have k2 := K1.out.drew.chg (chg_setRow (w := w1.drew) (d := a) (L := [a]) (by simp) (bcs (secPut s.now i bs)).toArray) (by have := (HLT.out a (.inr (.inl rfl))).2; simp; omega)
  have C2 := hid ((Chg.of_below (L := fpL g a m A q) B1.out).trans hc2.from_drew (fun b hb => .inl hb))
  generalize w1.drew.setRow a (bcs (secPut s.now i bs)).toArray = w2 at h2 hc2 k2 C2 ⊢
  have H2 := hid h2; have K2 := hid k2
  clear h2 hc2 k2 Hst hi H1 K1 B1 LD1
  go_wp2_with fail
  -- the append, reckoned ahead
  have hwa := H2.out.drew
  have hbs := below_new w2.drew (.cells (lcell (i, bs)).toArray 78)
  have hkb := Blk.new w2.drew 78 (lcell (i, bs)).toArray
  have hsz := size_new w2.drew (.cells (lcell (i, bs)).toArray 78)
  have hsw := slice_write (i, bs) H64.out w2.drew
  have HZ := hid (info_parts (P := Try.prog) (e := 78) (z := .agg ((Value.int .i64 0) :: List.replicate 64 (.int .u8 0)).toArray) (size := 65) (bytes := 72) (by kernel_rfl))
  obtain ⟨ti, hti, htz, hts, htb⟩ := HZ.out
  have hrow := ownsRow_chg hwa.row (Chg.of_below (L := []) hbs) (by simp)
  have hbase2 : base ≤ (w2.drew.alloc (.cells (lcell (i, bs)).toArray 78)).heap.size := Nat.le_trans HB.out (Nat.le_trans C2.out.size hbs.size)
  obtain ⟨g', cap, wc, hr, ho, hgr, hg', hlt'⟩ := run_append_lies (P := Try.prog) (w2.drew.alloc (.cells (lcell (i, bs)).toArray 78)) 44 44 base 78 ti _ 65 72 (by kernel_rfl) hti htz hts htb (by simp [Value.cells]) (by omega)
    (.slice A s.loose.length c) s.loose.length (lcells s.loose) hrow ⟨w2.drew.heap.size, 0, none⟩ 1 1 (lcell (i, bs)) (by rw [lcell_length H64.out]) (fun j u hj => by rw [Addr.add_lit, Nat.zero_add]; exact hkb.cell j (by simpa using hj)) (fun u hu => by
      simp only [lcell, List.mem_cons] at hu
      rcases hu with rfl | hu
      · rfl
      · exact bcs_oneCell _ u hu) (by omega) (by have := HLO.out; simp [maxLen]; omega) (by have := HLO.out; omega) hbase2 _ rfl
  rw [own_row] at hgr hg'
  have hall : w2.grownBy wc (rowOf A) := ⟨hgr.os.trans hbs.os, hgr.tape.trans hbs.tape, hgr.output.trans hbs.output, Nat.le_trans hbs.size hgr.size, fun k hk hn => (hgr.block k (Nat.lt_of_lt_of_le hk hbs.size) hn).trans (hbs.block k hk)⟩
  have hpush := H2.out.pushed hall ho (hg'.imp id (fun e => by rw [e, hsz]; exact Nat.le_succ _))
  have cc3 : wc.cell? ⟨g, 3, none⟩ = some (.slice A s.loose.length c) := (H2.out.hd.grown hall (fun e => (H2.out.rs g e).1 rfl)).cell 3 rfl
  have kc : Blk wc w.heap.size 78 (lcell (i, bs)).toArray := K2.out.grown hall (fun e => by have := (HLT.out _ (.inr (.inr (.inr (.inl e))))).2; omega)
  have HK := hid (show InPost w base g a m A q (putS s i bs) (.tuple #[]) (.returned (.tuple #[])) (wc.setCell ⟨g, 3, none⟩ (.slice (some ⟨g', 0, none⟩) (s.loose.length + 1) cap)) from
    ⟨rfl, _, _, _, hpush, C2.out.trans ((Chg.of_grown (L := fpL g a m A q) hall (fun b hb => by rw [mem_fpL]; exact .inr (.inr (.inr (.inl hb))))).trans (chg_set (by simp [fpL]) 3 _) (fun b hb => .inl hb)) (fun b hb => .inl hb), hg'.elim (fun e => .inl (by rw [e]; rfl)) (fun e => .inr (fun f hf => by cases hf; have := C2.out.size; rw [e, hsz]; exact Nat.le_succ_of_le this)), .inl rfl⟩)
  have ff3 := (H2.out.hd.grown hall (fun e => (H2.out.rs g e).1 rfl)).frozen 3
  have HW := hid (show ∀ k w', w' = (if k = 0 then w2.drew else if k = 1 then w2.drew.alloc (.cells (lcell (i, bs)).toArray 78) else wc) → w'.cell? ⟨g, 3, none⟩ = some (.slice A s.loose.length c) ∧ Blk w' w.heap.size 78 (lcell (i, bs)).toArray from by
    rintro k _ rfl
    split
    · exact ⟨hwa.hd.cell 3 rfl, K2.out.drew⟩
    · split
      · exact ⟨(hwa.hd.keep hbs).cell 3 rfl, K2.out.drew.keep hbs⟩
      · exact ⟨cc3, kc⟩)
  have HR := hid hr; have HSW := hid hsw; have C3 := hid cc3; have F3 := hid ff3
  have LD2 := hid (fun W (hW : Blk W w.heap.size 78 (lcell (i, bs)).toArray) => load_write hW H64.out)
  clear hwa hbs hkb hsz hsw hti htz hts htb HZ hrow hbase2 hr ho hgr hg' hlt' hall hpush cc3 kc ff3 H2 K2
  refine wp_region_phaseT grows 8 (fun k w' => w' = (if k = 0 then w2.drew else if k = 1 then w2.drew.alloc (.cells (lcell (i, bs)).toArray 78) else wc)) (fun w' => w'.cell? ⟨g, 3, none⟩ = some (.slice A s.loose.length c) ∧ Blk w' w.heap.size 78 (lcell (i, bs)).toArray) HW.out (by kernel_rfl) (by kernel_rfl) (by kernel_rfl) rfl ?_
  intro S _ at_ hS
  have c3 := fun x => (hS x).1
  have HS := hid hS
  clear hS
  simp only [List.take_succ_cons, List.take_zero]
  (refine phase_plain rfl (fun K hK => ?_); go_simp; refine hK _ ?_; clear hK K)
  (refine phase_plain rfl (fun K hK => ?_); go_simp; refine hK _ ?_; clear hK K)
  (refine phase_plain rfl (fun K hK => ?_); go_simp; refine hK _ ?_; clear hK K)
  (refine phase_plain rfl (fun K hK => ?_); go_simp; refine hK _ ?_; clear hK K)
  (refine phase_plain rfl (fun K hK => ?_); go_simp; refine hK _ ?_; clear hK K)
  refine phase_load_run rfl rfl 78 _ rfl ⟨w.heap.size, 0, none⟩ rfl (.agg (lcell (i, bs)).toArray) (by rintro w' ⟨x, rfl⟩; exact LD2.out _ (HS.out x).2) ?_
  refine phase_slice rfl rfl 44 1 0 _ rfl (.agg (lcell (i, bs)).toArray) (.slice (some ⟨w2.drew.heap.size, 0, none⟩) 1 1) rfl (by rintro _ rfl; exact ⟨_, HSW.out, rfl⟩) ?_
  refine phase_append rfl rfl _ _ 44 44 rfl (.slice A s.loose.length c) (.slice (some ⟨w2.drew.heap.size, 0, none⟩) 1 1) (.slice (some ⟨g', 0, none⟩) (s.loose.length + 1) cap) rfl rfl (by rintro _ rfl; exact ⟨_, HR.out, rfl⟩) ?_
  refine phase_nil ?_
  rintro w3 h3
  obtain rfl : w3 = wc := h3
  have c3 := C3.out
  have f3 := F3.out
  clear HS
  simp only [List.drop_succ_cons, List.drop_zero]
  go_wp2_with fail
  go_end0
  exact HK.out
end
end Go.Proofs.Ytjenafbkalokoaa
