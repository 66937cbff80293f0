/- Contracts: slices.Delete at a table's row (by the library's), a session removed. -/
import Derived.Test.YtgacdimjbpkgoaaDoorUpTab
import Derived.Shelf.SlicesE.Delete
import Derived.Test.YtgacdimjbpkgoaaDoorUpNames
import Derived.Test.YtgacdimjbpkgoaaDoorUpNoneW
namespace Go.Proofs.YtgacdimjbpkgoaaDoor
open Go.RowKit Go.Shelf

def delRen : Ren where
  f := fun k => if k = 45 then 51 else 0
  t := fun k => if k = 3 then 3 else if k = 4 then 4 else if k = 22 then 27 else if k = 23 then 68 else 0
  g := fun _ => 0
theorem up_del_lays : SlLaysE.n45 Tryd.prog delRen where
  mixed := by kernel_rfl
  f45 := ⟨ "slices.Delete[[]*entrepot/upload.session,*entrepot/upload.session]", by kernel_rfl, by kernel_rfl⟩
  t0 := by kernel_rfl
  a0 := up_agg (by kernel_rfl)
  z0 := up_size (by kernel_rfl)
  v0 := up_zero (by kernel_rfl)
  t3 := by kernel_rfl
  a3 := up_agg (by kernel_rfl)
  z3 := up_size (by kernel_rfl)
  v3 := up_zero (by kernel_rfl)
  t4 := by kernel_rfl
  a4 := up_agg (by kernel_rfl)
  z4 := up_size (by kernel_rfl)
  v4 := up_zero (by kernel_rfl)
  t22 := by kernel_rfl
  a22 := up_agg (by kernel_rfl)
  z22 := up_size (by kernel_rfl)
  v22 := up_zero (by kernel_rfl)
  a23 := up_agg (by kernel_rfl)
  z23 := up_size (by kernel_rfl)
def ptrE : Option Nat → Value
  | some b => .pointer (some ⟨b, 0, none⟩)
  | none => .pointer none
theorem ptrE_one : OneCell ptrE := fun x => by cases x <;> rfl
theorem up_info_p : (Tryd.prog.info? 68).map (fun i => (i.zero, i.size, i.bytes)) = some (some (.pointer none), 1, 8) := by kernel_rfl
theorem ptr_take (ps : List Nat) (i : Nat) (hi : i < ps.length) (cur : Array Value) (hc : ps.length ≤ cur.size) (l : List (Option Nat)) (hl : l = (ps.eraseIdx i).map some ++ [none]) :
    (Go.Sort.putCells ptrE 0 l.toArray cur).toList.take (ps.length - 1) = (ps.eraseIdx i).map fun b => .pointer (some ⟨b, 0, none⟩) := by
  have hle : (ps.eraseIdx i).length = ps.length - 1 := by rw [List.length_eraseIdx, if_pos hi]
  have hll : l.length = ps.length := by rw [hl, List.length_append, List.length_map, hle]; simp; omega
  refine List.ext_getElem? fun k => ?_
  by_cases hk : k < ps.length - 1
  · rw [List.getElem?_take_of_lt hk, Array.getElem?_toList]
    unfold Go.Sort.putCells
    have hkc : k < cur.size := by omega
    have hkl : k < l.toArray.size := by simp; omega
    have hke : k < (ps.eraseIdx i).length := by omega
    have hlk : l[k]? = some (some (ps.eraseIdx i)[k]) := by
      rw [hl, List.getElem?_append_left (by simpa using hke), List.getElem?_map, List.getElem?_eq_getElem hke]; rfl
    rw [Array.getElem?_mapIdx, Array.getElem?_eq_getElem hkc, Option.map_some, if_pos ⟨Nat.zero_le _, by omega⟩, Nat.sub_zero, getElem!_pos l.toArray k hkl]
    have h2 : l.toArray[k] = some (ps.eraseIdx i)[k] := by
      have := List.getElem?_eq_some_iff.1 hlk
      simpa using this.2
    rw [h2, List.getElem?_map, List.getElem?_eq_getElem hke]
    rfl
  · rw [List.getElem?_eq_none (by rw [List.length_take]; omega), List.getElem?_eq_none (by rw [List.length_map, hle]; omega)]
theorem up_delete {w : World} {base g cap i : Nat} {ps : List Nat} (hrow : w.ownsRow base 68 1 (.slice (some ⟨g, 0, none⟩) ps.length cap) ps.length (ps.map fun b => .pointer (some ⟨b, 0, none⟩))) (hi : i < ps.length) :
    Calls Tryd.prog 51 #[.slice (some ⟨g, 0, none⟩) ps.length cap, .int .i64 (i : Int), .int .i64 ((i + 1 : Nat) : Int)] w fun e w' => e = .returned (.slice (some ⟨g, 0, none⟩) (ps.length - 1) cap) ∧ w'.ownsRow base 68 1 (.slice (some ⟨g, 0, none⟩) (ps.length - 1) cap) (ps.length - 1) ((ps.eraseIdx i).map fun b => .pointer (some ⟨b, 0, none⟩)) ∧ Chg [g] w w' := by
  obtain ⟨h1, ⟨hv, -⟩ | ⟨g', cap', cur, hv, hb, hg, hn, hcm, hcs, ht⟩⟩ := hrow
  · cases hv
  cases hv
  have hcells := World.ownsRow.cells (show w.ownsRow base 68 1 (.slice (some ⟨g, 0, none⟩) ps.length cap) ps.length (ps.map fun b => .pointer (some ⟨b, 0, none⟩)) from ⟨h1, .inr ⟨g, cap, cur, rfl, hb, hg, hn, hcm, hcs, ht⟩⟩) (g := g) rfl
  have hblk : Blk w g 68 cur := hg
  obtain ⟨d, hd⟩ : ∃ d, d = (ps.map some).toArray := ⟨_, rfl⟩
  have hds : d.size = ps.length := by rw [hd]; simp
  have hH : Go.Sort.Holds ptrE w g 0 d := fun j hj => by
    have hjl : j < ps.length := by omega
    refine ⟨?_, hblk.frozen _⟩
    have := hcells j (.pointer (some ⟨ps[j], 0, none⟩)) (by rw [List.getElem?_map, List.getElem?_eq_getElem hjl]; rfl)
    rw [Addr.add_lit] at this
    rw [this, getElem!_pos d j hj]
    have h2 : d[j] = some ps[j] := by subst hd; simp
    rw [h2]
    rfl
  obtain ⟨i0, hi0, hz0, hz1, hz2⟩ := info_parts up_info_p
  have h := AnyE.slices_Delete up_del_lays ptrE ptrE_one none (fun w => up_zero (by kernel_rfl) w) i0 hi0 hz1 g 0 cap i (i + 1) d w hH (by omega) (by simp [maxLen] at hcm; omega) (Nat.le_succ i) (by omega)
  rw [hds] at h
  refine h.mono ?_
  rintro e w' ⟨rfl, q, rfl⟩
  have hel : d.toList.take i ++ d.toList.drop (i + 1) ++ List.replicate (i + 1 - i) none = (ps.eraseIdx i).map some ++ [none] := by
    subst hd
    rw [List.eraseIdx_eq_take_drop_succ, Nat.add_sub_cancel_left]
    simp
  have hpt := ptr_take ps i hi cur (by omega) _ hel
  generalize d.toList.take i ++ d.toList.drop (i + 1) ++ List.replicate (i + 1 - i) none = l at hpt ⊢
  refine ⟨by rw [Nat.add_sub_cancel_left], ⟨by rw [List.length_map, List.length_eraseIdx, if_pos hi, Nat.mul_one], .inr ⟨g, cap, Go.Sort.putCells ptrE 0 l.toArray cur, rfl, hb, ?_, by omega, hcm, by rw [← hcs]; simp [Go.Sort.putCells], by rw [Nat.mul_one]; exact hpt⟩⟩, ⟨rfl, rfl, rfl, by simp [Go.Sort.putRow, Go.Sort.mapBlock, Go.Sort.ahead], fun k _ hk => ?_⟩⟩
  · simp [Go.Sort.putRow, Go.Sort.mapBlock, Go.Sort.ahead, Array.getElem?_modify, hg, Go.Sort.onCells]
  · have hne : g ≠ k := fun e => hk (by simp [e])
    simp [Go.Sort.putRow, Go.Sort.mapBlock, Go.Sort.ahead, Array.getElem?_modify, hne]
theorem erase_get {α : Type} {l : List α} {k j : Nat} {x : α} (h : (l.eraseIdx k)[j]? = some x) : ∃ j', l[j']? = some x ∧ j' = (if j < k then j else j + 1) := by
  rw [List.getElem?_eraseIdx] at h
  by_cases hjk : j < k
  · rw [if_pos hjk] at h; exact ⟨j, h, by rw [if_pos hjk]⟩
  · rw [if_neg hjk] at h; exact ⟨j + 1, h, by rw [if_neg hjk]⟩
/-- a table with a session less -/
theorem UpB.del {w w' : World} {base t : Nat} {width next : Int} {ss : List US} {sv : Value} {qs : List (Nat × Value × List Value)} (h : UpB w base t width next ss sv qs) {k g : Nat} {sv' : Value} (hk : k < ss.length) (hsv : sv.ownBlock = some g) (hsv' : sv'.ownBlock = some g) (hd : Blk w' t 29 (upCells t width next sv'))
    (hrow : w'.ownsRow base 68 1 sv' (ss.length - 1) ((qs.eraseIdx k).map fun x => .pointer (some ⟨x.1, 0, none⟩))) (hc : Chg [t, g] w w') :
    UpB w' base t width next (ss.eraseIdx k) sv' (qs.eraseIdx k) ∧ ∀ b ∈ upF t sv' (qs.eraseIdx k), b ∈ upF t sv qs := by
  have hin : ∀ x ∈ qs.eraseIdx k, x ∈ qs := fun x hx => List.mem_of_mem_eraseIdx hx
  have hgt := row_ty h.row hsv
  have hnt : ∀ (s : US) (x : Nat × Value × List Value), SessB w base x.1 s x.2.1 x.2.2 → ∀ b ∈ upBlocks x.1 x.2.1 x.2.2, b ∉ [t, g] := fun s x hs b hb hm => by
    rcases List.mem_cons.1 hm with rfl | hm
    · rcases hs.tys hb with h1 | h1 | h1
      · exact h.hd.ty.ne h1 (by decide) rfl
      · exact h.hd.ty.ne h1 (by decide) rfl
      · exact h.hd.ty.ne h1 (by decide) rfl
    · obtain rfl := List.mem_singleton.1 hm
      rcases hs.tys hb with h1 | h1 | h1
      · exact hgt.ne h1 (by decide) rfl
      · exact hgt.ne h1 (by decide) rfl
      · exact hgt.ne h1 (by decide) rfl
  refine ⟨⟨hd, ?_, fun j s x hs hx => ?_, fun i j x y hij hx hy => ?_, h.ht⟩, fun b hb => ?_⟩
  · rw [List.length_eraseIdx, if_pos hk]; exact hrow
  · obtain ⟨j1, h1, e1⟩ := erase_get hs
    obtain ⟨j2, h2, e2⟩ := erase_get hx
    rw [e1] at h1; rw [e2] at h2
    have hse := h.each _ s x h1 h2
    exact hse.chg hc (hnt s x hse)
  · obtain ⟨j1, h1, e1⟩ := erase_get hx
    obtain ⟨j2, h2, e2⟩ := erase_get hy
    refine h.apart j1 j2 x y ?_ h1 h2
    rw [e1, e2]
    split <;> split <;> omega
  · rcases mem_upF.1 hb with rfl | hb | ⟨x, hx, hb⟩
    · exact mem_upF.2 (.inl rfl)
    · rw [hsv', ← hsv] at hb; exact mem_upF.2 (.inr (.inl hb))
    · exact mem_upF.2 (.inr (.inr ⟨x, hin x hx, hb⟩))
set_option maxRecDepth 20000 in
set_option maxHeartbeats 4000000 in
theorem up_remove {w : World} {base t : Nat} {width next : Int} {ss : List US} {sv : Value} {qs : List (Nat × Value × List Value)} (h : UpB w base t width next ss sv qs) (hs : (nosOf ss).Pairwise (· < ·)) (hm : ss.length ≤ 1000000) (x : Int) (hno : hasNo ss x = true) :
    Calls Tryd.prog 38 #[.pointer (some ⟨t, 0, none⟩), .int .i64 x] w fun e w' => e = .returned (.tuple #[]) ∧ ∃ sv', UpB w' base t width next (ss.eraseIdx (aheadN (nosOf ss) x)) sv' (qs.eraseIdx (aheadN (nosOf ss) x)) ∧ (∀ b ∈ upF t sv' (qs.eraseIdx (aheadN (nosOf ss) x)), b ∈ upF t sv qs) ∧ Chg (upF t sv qs) w w' := by
  obtain ⟨s0, hs0, -⟩ := hasNo_at hno
  have hlt := (List.getElem?_eq_some_iff.1 hs0).1
  have hlen := h.len
  have HP := hid (up_place h hs hm x)
  rw [show ((nosOf ss)[aheadN (nosOf ss) x]? == some x) = true from hno] at HP
  generalize aheadN (nosOf ss) x = R at HP hlt ⊢
  obtain ⟨g, cap, hsv⟩ : ∃ g cap, sv = .slice (some ⟨g, 0, none⟩) ss.length cap := by
    rcases h.row.2 with ⟨_, h0⟩ | ⟨g, cap, cur, e, _⟩
    · omega
    · exact ⟨g, cap, e⟩
  obtain ⟨N, hN⟩ : ∃ N, ss.length = N := ⟨_, rfl⟩
  have hpl : (qs.map (·.1)).length = N := by rw [List.length_map, hlen, hN]
  have hpm : (qs.map (·.1)).map (fun b => Value.pointer (some ⟨b, 0, none⟩)) = qs.map fun x => Value.pointer (some ⟨x.1, 0, none⟩) := by rw [List.map_map]; rfl
  have hpe : ((qs.map (·.1)).eraseIdx R).map (fun b => Value.pointer (some ⟨b, 0, none⟩)) = (qs.eraseIdx R).map fun x => Value.pointer (some ⟨x.1, 0, none⟩) := by rw [List.eraseIdx_eq_take_drop_succ, List.eraseIdx_eq_take_drop_succ, ← List.map_take, ← List.map_drop, ← List.map_append, List.map_map]; rfl
  have hdel := up_delete (w := w) (base := base) (g := g) (cap := cap) (i := R) (ps := qs.map (·.1)) (by rw [hpl, hpm, ← hN, ← hsv]; exact h.row) (by rw [hpl]; omega)
  rw [hpl, hpe, show ((R + 1 : Nat) : Int) = (R : Int) + 1 from by omega] at hdel
  have c3 : w.cell? ⟨t, 3, none⟩ = some (.slice (some ⟨g, 0, none⟩) N cap) := by rw [← hN, ← hsv]; exact h.hd.cell 3 rfl
  have hw1 : IntKind.i64.wrap ((R : Int) + 1) = (R : Int) + 1 := IntWalk.i64_in _ (by omega)
  have hgt : t ≠ g := (h.hd.ty.ne (row_ty h.row (by rw [hsv]; rfl)) (by decide))
  have HH := hid (show ∀ w', w'.ownsRow base 68 1 (.slice (some ⟨g, 0, none⟩) (N - 1) cap) (N - 1) ((qs.eraseIdx R).map fun x => .pointer (some ⟨x.1, 0, none⟩)) → Chg [g] w w' → UpB (w'.setCell ⟨t, 3, none⟩ (.slice (some ⟨g, 0, none⟩) (N - 1) cap)) base t width next (ss.eraseIdx R) (.slice (some ⟨g, 0, none⟩) (N - 1) cap) (qs.eraseIdx R) ∧ (∀ b ∈ upF t (.slice (some ⟨g, 0, none⟩) (N - 1) cap) (qs.eraseIdx R), b ∈ upF t sv qs) ∧ Chg (upF t sv qs) w (w'.setCell ⟨t, 3, none⟩ (.slice (some ⟨g, 0, none⟩) (N - 1) cap)) from fun w' hrow hc => by
    have hk2 := h.hd.chg hc (by simpa using hgt)
    have hk3 := hk2.set_ 3 (.slice (some ⟨g, 0, none⟩) (N - 1) cap)
    have hch : Chg [t, g] w (w'.setCell ⟨t, 3, none⟩ (.slice (some ⟨g, 0, none⟩) (N - 1) cap)) := (hc.more (L' := [t, g]) (fun b hb => .inl (by simp at hb ⊢; exact .inr hb))).trans (Chg.of_grown (L := [t]) (grown_setCell w' t 3 _) (fun g e => by cases e; simp)) (fun b hb => .inl (by simp at hb ⊢; exact .inl hb))
    have := h.del (k := R) (g := g) (sv' := .slice (some ⟨g, 0, none⟩) (N - 1) cap) hlt (by rw [hsv]; rfl) rfl (by simpa [upCells] using hk3) (by rw [hN]; exact World.ownsRow.kept hrow (grown_setCell w' t 3 _) (.inr (fun e => hgt (Option.some.inj e).symm))) hch
    exact ⟨this.1, this.2, hch.more (fun b hb => .inl (by
      rcases List.mem_cons.1 hb with rfl | hb
      · exact mem_upF.2 (.inl rfl)
      · obtain rfl := List.mem_singleton.1 hb
        exact mem_upF.2 (.inr (.inl (by rw [hsv]; rfl)))))⟩)
  have HZ := hid (show ∀ w', Chg [g] w w' → w'.frozen? ⟨t, 3, none⟩ = false ∧ w'.cell? ⟨t, 3, none⟩ = some (.slice (some ⟨g, 0, none⟩) N cap) from fun w' hc => by
    have hk2 := h.hd.chg hc (by simpa using hgt)
    exact ⟨hk2.frozen 3, by rw [← hN, ← hsv]; exact hk2.cell 3 rfl⟩)
  have HD := hid hdel
  clear hdel hpe hpm hpl hN hsv hgt hlt hs0 hlen h hs hm hno
  go_enter Tryd.func38, Tryd.ntmps38
  go_wp2_with fail
  refine HP.out.mono ?_
  rintro _ _ ⟨rfl, rfl⟩
  go_wp2_with fail
  refine HD.out.mono ?_
  rintro _ w2 ⟨rfl, hrow, hc⟩
  have HE := hid (HH.out w2 hrow hc)
  obtain ⟨z3, d3⟩ := HZ.out w2 hc
  clear hrow hc HH HZ HD c3
  go_wp2_with fail
  go_end0
  exact ⟨rfl, _, HE.out⟩
end Go.Proofs.YtgacdimjbpkgoaaDoor
/- Contracts: a session cancelled, a session finished. -/
namespace Go.Proofs.YtgacdimjbpkgoaaDoor
open Go.RowKit Crc
attribute [local go_sem] up_mkf

section
variable {w : World} {base t : Nat} {width next : Int} {ss : List US} {sv : Value} {qs : List (Nat × Value × List Value)}
set_option maxHeartbeats 2000000 in
set_option maxRecDepth 20000 in
theorem up_cancel_yes (h : UpB w base t width next ss sv qs) (hs : (nosOf ss).Pairwise (· < ·)) (hm : ss.length ≤ 1000000) (x : Int) (hno : hasNo ss x = true) :
    Calls Tryd.prog 13 #[.pointer (some ⟨t, 0, none⟩), .int .i64 x] w fun e w' => e = .returned (.int .i64 0) ∧ ∃ sv', UpB w' base t width next (ss.eraseIdx (aheadN (nosOf ss) x)) sv' (qs.eraseIdx (aheadN (nosOf ss) x)) ∧ (∀ b ∈ upF t sv' (qs.eraseIdx (aheadN (nosOf ss) x)), b ∈ upF t sv qs) ∧ Chg (upF t sv qs) w w' := by
  obtain ⟨W, hW, k0, k1, hB, hZ⟩ := up_two w #[.int .i64 0] #[.int .i64 0] 31 65
  have hyf : w.heap.size + 1 ∉ upF t sv qs := fun hb => by have := (h.lt _ hb).2; omega
  have hgf : w.heap.size ∉ upF t sv qs := fun hb => by have := (h.lt _ hb).2; omega
  have HF := hid (up_find_yes (h.keep hB) hs hm x (w.heap.size + 1) 0 k1 hyf hno)
  have HR := hid (fun W' (hc : Chg [w.heap.size + 1] W W') => up_remove ((h.keep hB).chg hc (fun b hb hm => hyf (by rw [← List.mem_singleton.1 hm]; exact hb))) hs hm x hno)
  have HW := hid hW; have K0 := hid k0; have HB := hid hB; have HYF := hid hyf; have HGF := hid hgf
  clear h hs hm hno hW k0 k1 hB hZ hyf hgf
  generalize aheadN (nosOf ss) x = R at HF HR ⊢
  go_enter_defers Tryd.func13, Tryd.ntmps13
  go_wp2_with fail
  rw [← HW.out]
  refine HF.out.mono ?_
  rintro _ w2 ⟨q, pv, us, hq, rfl, hc, hz, hb⟩
  have HR2 := hid (HR.out w2 hc)
  have K2 := hid (K0.out.chg hc (by simp)); have Y2 := hid hb
  have C2 := hid ((Chg.of_below (L := upF t sv qs) HB.out).trans hc (fun b hb => .inr (by rw [List.mem_singleton.1 hb]; omega)))
  clear hc hz hb hq HF HW HR
  go_wp2_with fail
  refine HR2.out.mono ?_
  rintro _ w3 ⟨rfl, sv', hU, hsub, hc3⟩
  have K3 := hid (K2.out.chg hc3 HGF.out); have Y3 := hid (Y2.out.chg hc3 HYF.out)
  have C3 := hid (C2.out.trans hc3 (fun b hb => .inl hb))
  have HU := hid hU; have HS := hid hsub
  have c0 : w3.cell? ⟨w.heap.size, 0, none⟩ = some (.int .i64 0) := K3.out.cell 0 rfl
  have z0 := K3.out.frozen 0
  clear hU hsub hc3 HR2 K2 Y2
  go_wp2_with fail
  refine up_door1 rfl 0 0 0 rfl (fun _ => by simp [go_sem]) (fun W z hy hx => up_doorCancel _ _ _ _ _ W hy hx) K3.out Y3.out rfl (fun W hW => ⟨rfl, sv', HU.out.chg hW (fun b hb hm => HGF.out (by rw [← List.mem_singleton.1 hm]; exact HS.out b hb)), HS.out, C3.out.trans hW (fun b hb => .inr (by rw [List.mem_singleton.1 hb]; exact Nat.le_refl _))⟩)
set_option maxHeartbeats 2000000 in
set_option maxRecDepth 20000 in
theorem up_cancel_no (h : UpB w base t width next ss sv qs) (hs : (nosOf ss).Pairwise (· < ·)) (hm : ss.length ≤ 1000000) (x : Int) (hno : hasNo ss x = false) :
    Calls Tryd.prog 13 #[.pointer (some ⟨t, 0, none⟩), .int .i64 x] w fun e w' => e = .returned (.int .i64 12) ∧ Below w.heap.size w w' := by
  obtain ⟨W, hW, k0, k1, hB, hZ⟩ := up_two w #[.int .i64 0] #[.int .i64 0] 31 65
  have HF := hid (up_find_no (h.keep hB) hs hm x (w.heap.size + 1) 0 k1 (fun hb => by have := (h.lt _ hb).2; omega) hno)
  have HW := hid hW; have K0 := hid k0; have HB := hid hB
  clear h hs hm hno hW k0 k1 hB hZ
  go_enter_defers Tryd.func13, Tryd.ntmps13
  go_wp2_with fail
  rw [← HW.out]
  refine HF.out.mono ?_
  rintro _ w2 ⟨rfl, hc, hz, hb⟩
  have K2 := hid (K0.out.chg hc (by simp)); have Y2 := hid hb
  have HB2 := hid (HB.out.trans (hc.below (B := w.heap.size) (fun b hb => by simp at hb; omega) HB.out.size))
  have c0 : w2.cell? ⟨w.heap.size, 0, none⟩ = some (.int .i64 0) := K2.out.cell 0 rfl
  have z0 := K2.out.frozen 0
  clear hc hz hb HF HW
  go_wp2_with fail
  refine up_door1 rfl 12 0 0 rfl (fun _ => by simp [go_sem]) (fun W z hy hx => up_doorCancel _ _ _ _ _ W hy hx) K2.out Y2.out rfl (fun W hW => ⟨rfl, HB2.out.trans (hW.below (B := w.heap.size) (fun b hb => by simp at hb; omega) HB2.out.size)⟩)
end
end Go.Proofs.YtgacdimjbpkgoaaDoor
/- Contract: a session finished. -/
namespace Go.Proofs.YtgacdimjbpkgoaaDoor
open Go.RowKit Crc
attribute [local go_sem] up_mkf

theorem up_setRow_chg (W : World) (g : Nat) (cs : Array Value) : Chg [g] W (W.setRow g cs) := Chg.of_grown (grown_setRow W g cs) (fun g e => by cases e; simp)
def FinP (w : World) (base t : Nat) (width next : Int) (ss : List US) (sv : Value) (qs : List (Nat × Value × List Value)) (R : Nat) (s : US) (fb : Bool) (e : Ending) (w' : World) : Prop :=
  (fb = false → e = .returned (.tuple #[.agg sesZ, .int .i64 8]) ∧ Below w.heap.size w w') ∧
  (fb = true → ∃ v, e = .returned (.tuple #[.agg #[.int .i64 s.n, .string s.repo, v], .int .i64 0]) ∧ Own w' w.heap.size 5 v s.len s.ps.flatten ∧ ∃ sv', UpB w' base t width next (ss.eraseIdx R) sv' (qs.eraseIdx R) ∧ (∀ b ∈ upF t sv' (qs.eraseIdx R), b ∈ upF t sv qs) ∧ Chg (upF t sv qs) w w')
section
variable {w : World} {base t : Nat} {width next : Int} {ss : List US} {sv : Value} {qs : List (Nat × Value × List Value)}
set_option maxHeartbeats 8000000 in
set_option maxRecDepth 20000 in
theorem up_finish (h : UpB w base t width next ss sv qs) (hs : (nosOf ss).Pairwise (· < ·)) (hm : ss.length ≤ 1000000) (x : Int) (hno : hasNo ss x = true) {s : US} (hss : ss[aheadN (nosOf ss) x]? = some s) (hl : s.len ≤ 1000000) (hG : Glob w) (h1 : 1 ≤ width) (h2 : width ≤ 32) (d : List UInt8) (hd : d.length = 32) :
    Calls Tryd.prog 11 #[.pointer (some ⟨t, 0, none⟩), .int .i64 x, .agg (bcells d)] w (FinP w base t width next ss sv qs (aheadN (nosOf ss) x) s (cutB (sha s.ps.flatten) width == d)) := by
  obtain ⟨W, hW, k0, k1, k2, k3, hB, hZ⟩ := up_four w (bcells d) #[.int .i64 0, .string ⟨#[]⟩, .slice none 0 0] #[.int .i64 0] #[.int .i64 0] 24 37 31 65
  have hge : ∀ b, w.heap.size ≤ b → b ∉ upF t sv qs := fun b hb hm => by have := (h.lt _ hm).2; omega
  have HGE := hid hge
  have HF := hid (up_find_yes (h.keep hB) hs hm x (w.heap.size + 1 + 1 + 1) 0 k3 (hge _ (by omega)) hno)
  have HRM := hid (fun W' (hu : UpB W' base t width next ss sv qs) => up_remove hu hs hm x hno)
  have ES : Hid ((Tryd.prog.info? 24).map (·.size) = some (bcells d).size) := by rw [Hid, bcells_size, hd]; exact (zero_of_info info26).2
  have HU := hid (h.keep hB); have HW := hid hW; have K0 := hid k0; have K1 := hid k1; have K2 := hid k2; have HB := hid hB
  have HN := hid (fun (W' : World) (n c B : Nat) (A : Option Addr) (bs : List UInt8) (hu : UpB W' base t width next ss sv qs) (hsb : SB W' B A n bs) (hc : n ≤ c) (hb : Below w.heap.size w W') (hn : n ≤ 1099511627776) => up_names hu.hd hd hsb hc (hG.keep hb) hn h1 h2)
  have HSS := hid hss; have HL := hid hl
  clear h hs hm hno hW k0 k1 k2 k3 hB hZ hge hG h1 h2 hd hss hl
  generalize aheadN (nosOf ss) x = R at HF HRM HSS ⊢
  obtain ⟨fb, hfb⟩ : ∃ fb, (cutB (sha s.ps.flatten) width == d) = fb := ⟨_, rfl⟩
  rw [hfb]
  have HFB := hid hfb; clear hfb
  go_enter_defers Tryd.func11, Tryd.ntmps11
  go_wp2_with fail
  rw [← HW.out]
  refine HF.out.mono ?_
  rintro _ w2 ⟨q, pv, us, hq, rfl, hc, hz, hb⟩
  have HT := hid (up_tell ((HU.out.chg hc (fun b hb hm => HGE.out _ (by rw [List.mem_singleton.1 hm]; omega) hb)).each _ s _ HSS.out hq) HL.out)
  have U2 := hid (HU.out.chg hc (fun b hb hm => HGE.out _ (by rw [List.mem_singleton.1 hm]; omega) hb))
  have K0 := hid (K0.out.chg hc (by intro hm; have := List.mem_singleton.1 hm; omega)); have K1 := hid (K1.out.chg hc (by intro hm; have := List.mem_singleton.1 hm; omega)); have K2 := hid (K2.out.chg hc (by intro hm; have := List.mem_singleton.1 hm; omega)); have KY := hid hb
  have B2 := hid (HB.out.trans (hc.below (B := w.heap.size) (fun b hb => by rw [List.mem_singleton.1 hb]; omega) HB.out.size))
  clear hc hz hb hq HF HW HU HB
  go_wp2_with fail
  refine HT.out.mono ?_
  rintro _ w3 ⟨v, rfl, ho, b3⟩
  obtain ⟨A, c, rfl, hnc, hsb, hov⟩ := ho.sb
  have HG3 := hid (show w.heap.size + 1 + 1 + 1 < w3.heap.size from Nat.lt_of_lt_of_le KY.out.lt b3.size)
  have HOV := hid (show ∀ g, (Value.slice A s.len c).ownBlock = some g → w.heap.size + 1 + 1 + 1 < g from fun g e => Nat.lt_of_lt_of_le KY.out.lt (hov g e).1)
  have bn := below_new w3 (.cells #[.int .i64 0, .string ⟨#[]⟩, .slice none 0 0] 37)
  have kn := Blk.new w3 37 #[.int .i64 0, .string ⟨#[]⟩, .slice none 0 0]
  have B3 := B2.out.trans (b3.mono B2.out.size)
  obtain ⟨w5, hw5⟩ : ∃ w5, w5 = (w3.alloc (.cells #[.int .i64 0, .string ⟨#[]⟩, .slice none 0 0] 37)).setRow w3.heap.size #[.int .i64 s.n, .string s.repo, .slice A s.len c] := ⟨_, rfl⟩
  have hb5 : Below w3.heap.size w3 w5 := by rw [hw5]; exact bn.trans (below_of_grown (grown_setRow _ _ _) bn.size (fun g e => by cases e; exact Nat.le_refl _))
  have U5 := hid ((U2.out.keep b3).keep hb5)
  have K0 := hid ((K0.out.keep b3).keep hb5); have K1 := hid ((K1.out.keep b3).keep hb5); have K2 := hid ((K2.out.keep b3).keep hb5); have KY := hid ((KY.out.keep b3).keep hb5)
  have KN := hid (show Blk w5 w3.heap.size 37 #[.int .i64 s.n, .string s.repo, .slice A s.len c] from by rw [hw5]; exact kn.setRow #[.int .i64 s.n, .string s.repo, .slice A s.len c])
  have KN0 := hid kn
  have HO := hid (kept_below (ho.lower B2.out.size) hb5)
  have B5 := hid (B3.trans (hb5.mono B3.size))
  have HNN := hid (HN.out w5 s.len c w3.heap.size A s.ps.flatten U5.out (hsb.keep hb5) hnc B5.out (by have := HL.out; omega))
  have HGN := hid (show w.heap.size ≤ w3.heap.size from B3.size)
  rw [HFB.out] at HNN
  have HW5 := hid hw5
  clear hw5 hb5 bn kn B3 ho hnc hsb hov b3 HT U2 B2 HN
  obtain ⟨sl, hsl⟩ : ∃ sl, s.len = sl := ⟨_, rfl⟩
  have HSL := hid hsl
  rw [hsl] at HW5 KN HO HNN HOV ⊢
  clear hsl
  go_wp2_with (refine wpList_store_blk rfl 37 _ _ rfl w3.heap.size _ rfl rfl 37 _ KN0.out up_size_ses rfl rfl ?_; refine Held.go ?_)
  rw [← HW5.out]
  unfold Held
  have c2 : w5.cell? ⟨w3.heap.size, 2, none⟩ = some (.slice A sl c) := KN.out.cell 2 rfl
  clear HW5 KN0
  go_wp2_with (refine wpList_load_blk rfl 24 _ rfl w.heap.size rfl 24 _ K0.out _ _ Tryd.underlying24 ES.out ?_)
  refine HNN.out.mono ?_
  rintro _ w6 ⟨rfl, b6⟩
  have HX := hid (up_unless (w.heap.size + 1 + 1 + 1) fb 8 0 w6 (KY.out.keep b6))
  have U6 := hid (U5.out.keep b6); have K1 := hid (K1.out.keep b6); have K2 := hid (K2.out.keep b6); have KN := hid (KN.out.keep b6); have HO := hid (kept_below HO.out b6)
  have B6 := hid (B5.out.trans (b6.mono B5.out.size))
  clear c2 b6 HNN K0 KY U5 B5
  go_wp2_with fail
  refine HX.out.mono ?_
  rintro _ w7 ⟨rfl, hc, hz, hb⟩
  have U7 := hid (U6.out.chg hc (fun b hb hm => HGE.out _ (by rw [List.mem_singleton.1 hm]; omega) hb))
  have HN7 := HG3.out
  have K1 := hid (K1.out.chg hc (by intro hm; have := List.mem_singleton.1 hm; omega)); have K2 := hid (K2.out.chg hc (by intro hm; have := List.mem_singleton.1 hm; omega)); have KN := hid (KN.out.chg hc (by intro hm; have := List.mem_singleton.1 hm; omega)); have KY := hid hb
  have HO := hid (Own.chg HO.out hc (fun g e hm => by have := HOV.out g e; have := List.mem_singleton.1 hm; omega))
  have B7 := hid (B6.out.trans (hc.below (B := w.heap.size) (fun b hb => by rw [List.mem_singleton.1 hb]; omega) B6.out.size))
  clear hc hz hb HN7 HX U6 B6
  cases fb with
  | false =>
    have c0 : w7.cell? ⟨w.heap.size + 1, 0, none⟩ = some (.int .i64 0) := K1.out.cell 0 rfl
    have c1 : w7.cell? ⟨w.heap.size + 1, 1, none⟩ = some (.string ⟨#[]⟩) := K1.out.cell 1 rfl
    have c2 : w7.cell? ⟨w.heap.size + 1, 2, none⟩ = some (.slice none 0 0) := K1.out.cell 2 rfl
    clear HRM U7 KN HO HFB HOV
    go_wp2_with (refine wpList_store_blk rfl 37 _ _ rfl (w.heap.size + 1) #[.int .i64 0, .string ⟨#[]⟩, .slice none 0 0] rfl rfl 37 _ K1.out up_size_ses rfl rfl ?_; refine Held.go ?_)
    unfold Held
    have k1 := K1.out.setRow #[.int .i64 0, .string ⟨#[]⟩, .slice none 0 0]
    have k2 := K2.out.grown (grown_setRow w7 (w.heap.size + 1) #[.int .i64 0, .string ⟨#[]⟩, .slice none 0 0]) (fun e => by have := Option.some.inj e; omega)
    have k3 := KY.out.grown (grown_setRow w7 (w.heap.size + 1) #[.int .i64 0, .string ⟨#[]⟩, .slice none 0 0]) (fun e => by have := Option.some.inj e; omega)
    have hc8 := up_setRow_chg w7 (w.heap.size + 1) #[.int .i64 0, .string ⟨#[]⟩, .slice none 0 0]
    generalize w7.setRow (w.heap.size + 1) #[.int .i64 0, .string ⟨#[]⟩, .slice none 0 0] = w8 at k1 k2 k3 hc8 ⊢
    have d0 : w8.cell? ⟨w.heap.size + 1 + 1, 0, none⟩ = some (.int .i64 0) := k2.cell 0 rfl
    have z0 := k2.frozen 0
    have K1 := hid k1; have K2 := hid k2; have KY := hid k3; have C8 := hid hc8
    clear k1 k2 k3 hc8 c0 c1 c2
    go_wp2_with fail
    have B8 := B7.out.trans (C8.out.below (B := w.heap.size) (fun b hb => by rw [List.mem_singleton.1 hb]; omega) B7.out.size)
    have hcx : Chg [w.heap.size + 1 + 1] w8 (w8.setCell ⟨w.heap.size + 1 + 1, 0, none⟩ (.int .i64 0)) := Chg.of_grown (grown_setCell w8 (w.heap.size + 1 + 1) 0 _) (fun g e => by cases e; simp)
    have k2' : Blk (w8.setCell ⟨w.heap.size + 1 + 1, 0, none⟩ (.int .i64 0)) (w.heap.size + 1 + 1) 31 #[.int .i64 0] := by have := K2.out.set_ 0 (.int .i64 0); simpa using this
    exact up_door3 (G := w.heap.size) rfl 8 0 sesZ rfl rfl (fun _ => by simp [go_sem]) (fun W z hy hx => up_doorFinish _ _ _ _ _ W hy hx) (K1.out.far (p := ⟨w.heap.size + 1 + 1, 0, none⟩) (by simp) (.int .i64 0)) k2' (KY.out.far (p := ⟨w.heap.size + 1 + 1, 0, none⟩) (by simp) _) rfl rfl (fun W hW => ⟨fun _ => ⟨rfl, (B8.trans (hcx.below (B := w.heap.size) (fun b hb => by simp at hb; omega) B8.size)).trans (hW.below (B := w.heap.size) (fun b hb => by simp at hb; omega) (by have := B8.size; have := hcx.size; omega))⟩, fun e => by cases e⟩)
  | true =>
    go_wp2_with fail
    refine (HRM.out w7 U7.out).mono ?_
    rintro _ w8 ⟨rfl, sv', hU, hsub, hch⟩
    have K1 := hid (K1.out.chg hch (HGE.out _ (by omega))); have K2 := hid (K2.out.chg hch (HGE.out _ (by omega))); have KY := hid (KY.out.chg hch (HGE.out _ (by omega))); have KN := hid (KN.out.chg hch (HGE.out _ (by have := HG3.out; omega)))
    have HO := hid (Own.chg HO.out hch (fun g e => HGE.out _ (by have := HOV.out g e; omega)))
    have C8 := hid ((Chg.of_below (L := upF t sv qs) B7.out).trans hch (fun b hb => .inl hb))
    have HSZ := hid (Nat.le_trans B7.out.size hch.size)
    have HU := hid hU; have HS := hid hsub
    have c0 : w8.cell? ⟨w3.heap.size, 0, none⟩ = some (.int .i64 s.n) := KN.out.cell 0 rfl
    have c1 : w8.cell? ⟨w3.heap.size, 1, none⟩ = some (.string s.repo) := KN.out.cell 1 rfl
    have c2 : w8.cell? ⟨w3.heap.size, 2, none⟩ = some (.slice A sl c) := KN.out.cell 2 rfl
    clear hU hsub hch HRM U7 B7
    go_wp2_with (refine wpList_store_blk rfl 37 _ _ rfl (w.heap.size + 1) #[.int .i64 s.n, .string s.repo, .slice A sl c] rfl rfl 37 _ K1.out up_size_ses rfl rfl ?_; refine Held.go ?_)
    unfold Held
    have k1 := K1.out.setRow #[.int .i64 s.n, .string s.repo, .slice A sl c]
    have k2 := K2.out.grown (grown_setRow w8 (w.heap.size + 1) #[.int .i64 s.n, .string s.repo, .slice A sl c]) (fun e => by have := Option.some.inj e; omega)
    have k3 := KY.out.grown (grown_setRow w8 (w.heap.size + 1) #[.int .i64 s.n, .string s.repo, .slice A sl c]) (fun e => by have := Option.some.inj e; omega)
    have hc9 := up_setRow_chg w8 (w.heap.size + 1) #[.int .i64 s.n, .string s.repo, .slice A sl c]
    generalize w8.setRow (w.heap.size + 1) #[.int .i64 s.n, .string s.repo, .slice A sl c] = w9 at k1 k2 k3 hc9 ⊢
    have c0 : w9.cell? ⟨w.heap.size + 1, 0, none⟩ = some (.int .i64 s.n) := k1.cell 0 rfl
    have c1 : w9.cell? ⟨w.heap.size + 1, 1, none⟩ = some (.string s.repo) := k1.cell 1 rfl
    have c2 : w9.cell? ⟨w.heap.size + 1, 2, none⟩ = some (.slice A sl c) := k1.cell 2 rfl
    have K1 := hid k1; have K2 := hid k2; have KY := hid k3; have C9 := hid hc9
    clear k1 k2 k3 hc9 KN
    go_wp2_with (refine wpList_store_blk rfl 37 _ _ rfl (w.heap.size + 1) #[.int .i64 s.n, .string s.repo, .slice A sl c] rfl rfl 37 _ K1.out up_size_ses rfl rfl ?_; refine Held.go ?_)
    unfold Held
    have k1 := K1.out.setRow #[.int .i64 s.n, .string s.repo, .slice A sl c]
    have k2 := K2.out.grown (grown_setRow w9 (w.heap.size + 1) #[.int .i64 s.n, .string s.repo, .slice A sl c]) (fun e => by have := Option.some.inj e; omega)
    have k3 := KY.out.grown (grown_setRow w9 (w.heap.size + 1) #[.int .i64 s.n, .string s.repo, .slice A sl c]) (fun e => by have := Option.some.inj e; omega)
    have hc10 := up_setRow_chg w9 (w.heap.size + 1) #[.int .i64 s.n, .string s.repo, .slice A sl c]
    generalize w9.setRow (w.heap.size + 1) #[.int .i64 s.n, .string s.repo, .slice A sl c] = w10 at k1 k2 k3 hc10 ⊢
    have d0 : w10.cell? ⟨w.heap.size + 1 + 1, 0, none⟩ = some (.int .i64 0) := k2.cell 0 rfl
    have z0 := k2.frozen 0
    have K1 := hid k1; have K2 := hid k2; have KY := hid k3; have C10 := hid hc10
    clear k1 k2 k3 hc10 c0 c1 c2
    go_wp2_with fail
    have hcx : Chg [w.heap.size + 1 + 1] w10 (w10.setCell ⟨w.heap.size + 1 + 1, 0, none⟩ (.int .i64 0)) := Chg.of_grown (grown_setCell w10 (w.heap.size + 1 + 1) 0 _) (fun g e => by cases e; simp)
    have k2' : Blk (w10.setCell ⟨w.heap.size + 1 + 1, 0, none⟩ (.int .i64 0)) (w.heap.size + 1 + 1) 31 #[.int .i64 0] := by have := K2.out.set_ 0 (.int .i64 0); simpa using this
    have hall : ∀ W', Chg [w.heap.size + 1 + 1] (w10.setCell ⟨w.heap.size + 1 + 1, 0, none⟩ (.int .i64 0)) W' → Chg [w.heap.size + 1, w.heap.size + 1 + 1] w8 W' := fun W' hW => by
      have e1 := (C9.out.trans C10.out (fun b hb => .inl hb)).more (L' := [w.heap.size + 1, w.heap.size + 1 + 1]) (fun b hb => .inl (by rw [List.mem_singleton.1 hb]; simp))
      have e2 := e1.trans hcx (fun b hb => .inl (by rw [List.mem_singleton.1 hb]; simp))
      exact e2.trans hW (fun b hb => .inl (by rw [List.mem_singleton.1 hb]; simp))
    have hmem : ∀ b ∈ [w.heap.size + 1, w.heap.size + 1 + 1], w.heap.size ≤ b ∧ b < w.heap.size + 1 + 1 + 1 := fun b hb => by
      rcases List.mem_cons.1 hb with rfl | hb
      · exact ⟨by omega, by omega⟩
      · rw [List.mem_singleton.1 hb]; exact ⟨by omega, by omega⟩
    exact up_door3 (G := w.heap.size) rfl 0 0 #[.int .i64 s.n, .string s.repo, .slice A sl c] rfl rfl (fun _ => by simp [go_sem]) (fun W z hy hx => up_doorFinish _ _ _ _ _ W hy hx) (K1.out.far (p := ⟨w.heap.size + 1 + 1, 0, none⟩) (by simp) (.int .i64 0)) k2' (KY.out.far (p := ⟨w.heap.size + 1 + 1, 0, none⟩) (by simp) _) rfl rfl (fun W hW => ⟨(fun e => by cases e), fun _ => ⟨_, rfl, by
      rw [HSL.out]
      exact Own.chg HO.out (hall W hW) (fun g e hm => by have := HOV.out g e; have := (hmem g hm).2; omega), sv', HU.out.chg (hall W hW) (fun b hb hm => HGE.out b (hmem b hm).1 (HS.out b hb)), HS.out, C8.out.trans (hall W hW) (fun b hb => .inr (hmem b hb).1)⟩⟩)
end
end Go.Proofs.YtgacdimjbpkgoaaDoor
/- Contracts: a session that is not there finished; no sessions listed; tables that are not made. -/
namespace Go.Proofs.YtgacdimjbpkgoaaDoor
open Go.RowKit Crc
attribute [local go_sem] up_mkf

set_option maxHeartbeats 2000000 in
set_option maxRecDepth 20000 in
theorem up_finish_no {w : World} {base t : Nat} {width next : Int} {ss : List US} {sv : Value} {qs : List (Nat × Value × List Value)} (h : UpB w base t width next ss sv qs) (hs : (nosOf ss).Pairwise (· < ·)) (hm : ss.length ≤ 1000000) (x : Int) (hno : hasNo ss x = false) (d : List UInt8) :
    Calls Tryd.prog 11 #[.pointer (some ⟨t, 0, none⟩), .int .i64 x, .agg (bcells d)] w fun e w' => e = .returned (.tuple #[.agg sesZ, .int .i64 12]) ∧ Below w.heap.size w w' := by
  obtain ⟨W, hW, k0, k1, k2, k3, hB, hZ⟩ := up_four w (bcells d) #[.int .i64 0, .string ⟨#[]⟩, .slice none 0 0] #[.int .i64 0] #[.int .i64 0] 24 37 31 65
  have HF := hid (up_find_no (h.keep hB) hs hm x (w.heap.size + 1 + 1 + 1) 0 k3 (fun hb => by have := (h.lt _ hb).2; omega) hno)
  have HW := hid hW; have K1 := hid k1; have K2 := hid k2; have HB := hid hB
  clear h hs hm hno hW k0 k1 k2 k3 hB hZ
  go_enter_defers Tryd.func11, Tryd.ntmps11
  go_wp2_with fail
  rw [← HW.out]
  refine HF.out.mono ?_
  rintro _ w2 ⟨rfl, hc, hz, hb⟩
  have K1 := hid (K1.out.chg hc (by simp)); have K2 := hid (K2.out.chg hc (by simp)); have Y2 := hid hb
  have HB2 := hid (HB.out.trans (hc.below (B := w.heap.size) (fun b hb => by simp at hb; omega) HB.out.size))
  have c0 : w2.cell? ⟨w.heap.size + 1, 0, none⟩ = some (.int .i64 0) := K1.out.cell 0 rfl
  have c1 : w2.cell? ⟨w.heap.size + 1, 1, none⟩ = some (.string ⟨#[]⟩) := K1.out.cell 1 rfl
  have c2 : w2.cell? ⟨w.heap.size + 1, 2, none⟩ = some (.slice none 0 0) := K1.out.cell 2 rfl
  have z0 := K1.out.frozen 0; have z1 := K1.out.frozen 1; have z2 := K1.out.frozen 2
  have d0 : w2.cell? ⟨w.heap.size + 1 + 1, 0, none⟩ = some (.int .i64 0) := K2.out.cell 0 rfl
  have y0 := K2.out.frozen 0
  clear hc hz hb HF HW
  go_wp2_with fail
  have k1 := ((K1.out.set_ 0 (.int .i64 0)).set_ 1 (.string ⟨#[]⟩)).set_ 2 (.slice none 0 0)
  have k2 : Blk (((w2.setCell ⟨w.heap.size + 1, 0, none⟩ (.int .i64 0)).setCell ⟨w.heap.size + 1, 1, none⟩ (.string ⟨#[]⟩)).setCell ⟨w.heap.size + 1, 2, none⟩ (.slice none 0 0)) (w.heap.size + 1 + 1) 31 #[.int .i64 0] := ((K2.out.far (p := ⟨w.heap.size + 1, 0, none⟩) (by simp) _).far (p := ⟨w.heap.size + 1, 1, none⟩) (by simp) _).far (p := ⟨w.heap.size + 1, 2, none⟩) (by simp) _
  have k3 : Blk (((w2.setCell ⟨w.heap.size + 1, 0, none⟩ (.int .i64 0)).setCell ⟨w.heap.size + 1, 1, none⟩ (.string ⟨#[]⟩)).setCell ⟨w.heap.size + 1, 2, none⟩ (.slice none 0 0)) (w.heap.size + 1 + 1 + 1) 65 #[.int .i64 12] := ((Y2.out.far (p := ⟨w.heap.size + 1, 0, none⟩) (by simp; omega) _).far (p := ⟨w.heap.size + 1, 1, none⟩) (by simp; omega) _).far (p := ⟨w.heap.size + 1, 2, none⟩) (by simp; omega) _
  have hch : Chg [w.heap.size + 1] w2 (((w2.setCell ⟨w.heap.size + 1, 0, none⟩ (.int .i64 0)).setCell ⟨w.heap.size + 1, 1, none⟩ (.string ⟨#[]⟩)).setCell ⟨w.heap.size + 1, 2, none⟩ (.slice none 0 0)) :=
    ((Chg.of_grown (L := [w.heap.size + 1]) (grown_setCell w2 (w.heap.size + 1) 0 (.int .i64 0)) (fun g e => by cases e; simp)).trans (Chg.of_grown (L := [w.heap.size + 1]) (grown_setCell _ (w.heap.size + 1) 1 (.string ⟨#[]⟩)) (fun g e => by cases e; simp)) (fun b hb => .inl hb)).trans (Chg.of_grown (L := [w.heap.size + 1]) (grown_setCell _ (w.heap.size + 1) 2 (.slice none 0 0)) (fun g e => by cases e; simp)) (fun b hb => .inl hb)
  generalize ((w2.setCell ⟨w.heap.size + 1, 0, none⟩ (.int .i64 0)).setCell ⟨w.heap.size + 1, 1, none⟩ (.string ⟨#[]⟩)).setCell ⟨w.heap.size + 1, 2, none⟩ (.slice none 0 0) = X at k1 k2 k3 hch ⊢
  have k2' : Blk (X.setCell ⟨w.heap.size + 1 + 1, 0, none⟩ (.int .i64 0)) (w.heap.size + 1 + 1) 31 #[.int .i64 0] := by have := k2.set_ 0 (.int .i64 0); simpa using this
  have HBX := hid (HB2.out.trans (hch.below (B := w.heap.size) (fun b hb => by simp at hb; omega) HB2.out.size))
  have hcx : Chg [w.heap.size + 1 + 1] X (X.setCell ⟨w.heap.size + 1 + 1, 0, none⟩ (.int .i64 0)) := Chg.of_grown (grown_setCell X (w.heap.size + 1 + 1) 0 _) (fun g e => by cases e; simp)
  exact up_door3 (G := w.heap.size) rfl 12 0 sesZ rfl rfl (fun _ => by simp [go_sem]) (fun W z hy hx => up_doorFinish _ _ _ _ _ W hy hx) (by have := k1.far (p := ⟨w.heap.size + 1 + 1, 0, none⟩) (by simp) (.int .i64 0); simpa [sesZ] using this) k2' (k3.far (p := ⟨w.heap.size + 1 + 1, 0, none⟩) (by simp) _) rfl rfl (fun W hW => ⟨rfl, (HBX.out.trans (hcx.below (B := w.heap.size) (fun b hb => by simp at hb; omega) HBX.out.size)).trans (hW.below (B := w.heap.size) (fun b hb => by simp at hb; omega) (by have := HBX.out.size; have := hcx.size; omega))⟩)
set_option maxHeartbeats 2000000 in
set_option maxRecDepth 20000 in
theorem up_list_nil {w : World} {base t : Nat} {width next : Int} {sv : Value} {qs : List (Nat × Value × List Value)} (h : UpB w base t width next [] sv qs) :
    Calls Tryd.prog 15 #[.pointer (some ⟨t, 0, none⟩)] w fun e w' => (∃ A c, e = .returned (.slice A 0 c)) ∧ Below w.heap.size w w' := by
  have hv := up_valid h.hd
  obtain ⟨A, c, hsv⟩ : ∃ A c, sv = .slice A 0 c := by
    rcases h.row.2 with ⟨e, _⟩ | ⟨g, cap, cur, e, _⟩
    · exact ⟨_, _, e⟩
    · exact ⟨_, _, e⟩
  have c3 : w.cell? ⟨t, 3, none⟩ = some (.slice A 0 c) := by rw [← hsv]; exact h.hd.cell 3 rfl
  have HT := hid (fun W (hb : Below w.heap.size w W) => (show W.cell? ⟨t, 3, none⟩ = some (.slice A 0 c) from by rw [← hsv]; exact (h.keep hb).hd.cell 3 rfl))
  have HV := hid hv
  obtain ⟨i, hi, hz, hsz, hby⟩ := info_parts (show (Tryd.prog.info? 37).map (fun i => (i.zero, i.size, i.bytes)) = some (some (.agg sesZ), 3, 48) from by kernel_rfl)
  obtain ⟨W2, hr, hown, hg⟩ := run_make_own (P := Tryd.prog) w w.heap.size 43 37 i _ 3 Tryd.underlying43 hi hz hsz .i64 .i64 0 (by omega) (by simp [maxLen]) (Nat.le_refl _)
  have hr' : (Instr.makeSlice 43 (.int .i64 0) (.int .i64 0)).run Tryd.prog w = .ok (.slice (some ⟨w.heap.size, 0, none⟩) 0 0) W2 := hr
  have HB := hid (below_of_grown hg (Nat.le_refl _) (fun g e => by cases e))
  have c3' := HT.out W2 HB.out
  clear hr hown hg hi hz hsz hby hv h hsv
  go_enter Tryd.func15, Tryd.ntmps15
  go_wp2_with fail
  refine HV.out.mono ?_
  rintro _ _ ⟨rfl, rfl⟩
  go_wp2_with fail
  go_loopw [3, 20] (fun m i wr => m = .slice (some ⟨w.heap.size, 0, none⟩) 0 0 ∧ i = .int .i64 0 ∧ wr = W2) (fun _ _ _ => 0)
  case atStart => exact ⟨rfl, rfl, rfl⟩
  case round =>
    obtain ⟨rfl, rfl, rfl⟩ := hrel
    go_wp2_with fail
    go_ret
    exact ⟨⟨_, _, rfl⟩, HB.out⟩
set_option maxHeartbeats 4000000 in
set_option maxRecDepth 20000 in
theorem up_new_bad (width : Int) (hw : width < 1 ∨ 32 < width) (w : World) :
    Calls Tryd.prog 18 #[.int .i64 width] w fun e w' => e = .returned (.tuple #[.pointer none, .int .i64 3]) ∧ Below w.heap.size w w' := by
  have key : Calls Tryd.prog 19 #[.int .i64 width, .int .i64 1, .slice none 0 0] w fun e w' => e = .returned (.tuple #[.pointer none, .int .i64 3]) ∧ Below w.heap.size w w' := by
    obtain ⟨W, hW, k0, k1, hB, hZ⟩ := up_two w #[.int .i64 0] #[.int .i64 0] 31 65
    have HW := hid hW; have K0 := hid k0; have HB := hid hB
    have HU := hid (up_unless (w.heap.size + 1) false 3 0 W k1)
    clear hW k0 k1 hB hZ
    by_cases h1 : 1 ≤ width
    · have h2 : ¬ width ≤ 32 := by omega
      clear hw
      go_enter_defers Tryd.func19, Tryd.ntmps19
      go_wp2_with fail
      rw [← HW.out]
      refine HU.out.mono ?_
      rintro _ w2 ⟨rfl, hc, hz, hb⟩
      have K2 := hid (K0.out.chg hc (by simp)); have Y2 := hid (show Blk w2 (w.heap.size + 1) 65 #[.int .i64 3] by simpa using hb)
      have HB2 := hid (HB.out.trans (hc.below (B := w.heap.size) (fun b hb => by simp at hb; omega) HB.out.size))
      have c0 : w2.cell? ⟨w.heap.size, 0, none⟩ = some (.int .i64 0) := K2.out.cell 0 rfl
      have z0 := K2.out.frozen 0
      clear hc hz hb HU HW
      go_wp2_with fail
      refine up_door rfl 3 0 0 _ rfl (fun _ => by simp [go_sem]) (fun W z hy hx => up_doorLoad _ _ _ _ _ W hy hx) K2.out Y2.out rfl rfl (fun W hW => ⟨rfl, HB2.out.trans (hW.below (B := w.heap.size) (fun b hb => by simp at hb; omega) HB2.out.size)⟩)
    · clear hw
      go_enter_defers Tryd.func19, Tryd.ntmps19
      go_wp2_with fail
      rw [← HW.out]
      refine HU.out.mono ?_
      rintro _ w2 ⟨rfl, hc, hz, hb⟩
      have K2 := hid (K0.out.chg hc (by simp)); have Y2 := hid (show Blk w2 (w.heap.size + 1) 65 #[.int .i64 3] by simpa using hb)
      have HB2 := hid (HB.out.trans (hc.below (B := w.heap.size) (fun b hb => by simp at hb; omega) HB.out.size))
      have c0 : w2.cell? ⟨w.heap.size, 0, none⟩ = some (.int .i64 0) := K2.out.cell 0 rfl
      have z0 := K2.out.frozen 0
      clear hc hz hb HU HW
      go_wp2_with fail
      refine up_door rfl 3 0 0 _ rfl (fun _ => by simp [go_sem]) (fun W z hy hx => up_doorLoad _ _ _ _ _ W hy hx) K2.out Y2.out rfl rfl (fun W hW => ⟨rfl, HB2.out.trans (hW.below (B := w.heap.size) (fun b hb => by simp at hb; omega) HB2.out.size)⟩)
  have HK := hid key
  clear key hw
  go_enter Tryd.func18, Tryd.ntmps18
  go_wp2_with fail
  refine HK.out.mono ?_
  rintro _ w1 ⟨rfl, hb⟩
  have HB := hid hb
  clear hb HK
  go_wp2_with fail
  go_ret2
  exact ⟨rfl, HB.out⟩
end Go.Proofs.YtgacdimjbpkgoaaDoor
/- Contract: a table of sessions that cannot be. -/
namespace Go.Proofs.YtgacdimjbpkgoaaDoor
open Go.RowKit Crc
attribute [local go_sem] up_mkf

set_option maxHeartbeats 2000000 in
set_option maxRecDepth 20000 in
theorem up_possible_one (b : Nat) (z next : Int) (r : ByteArray) (w : World) (h : Blk w b 37 #[.int .i64 z, .string r, .slice none 0 0]) (h1 : 0 < z) (h2 : next ≤ z) :
    Calls Tryd.prog 44 #[.slice (some ⟨b, 0, none⟩) 1 1, .int .i64 next] w fun e w' => e = .returned (.bool false) ∧ Below w.heap.size w w' := by
  have c0 : w.cell? ⟨b, 0, none⟩ = some (.int .i64 z) := h.cell 0 rfl
  have c1 : w.cell? ⟨b, 1, none⟩ = some (.string r) := h.cell 1 rfl
  have c2 : w.cell? ⟨b, 2, none⟩ = some (.slice none 0 0) := h.cell 2 rfl
  have hbl := h.lt
  have d1 : (w.alloc (.cells #[.int .i64 0, .string ⟨#[]⟩, .slice none 0 0] 37)).heap.size = w.heap.size + 1 := by simp
  have KN := hid (Blk.new w 37 #[.int .i64 0, .string ⟨#[]⟩, .slice none 0 0])
  have HB := hid (below_new w (.cells #[.int .i64 0, .string ⟨#[]⟩, .slice none 0 0] 37))
  have g1 : ¬ z ≤ 0 := by omega
  clear h d1 hbl
  go_enter Tryd.func44, Tryd.ntmps44
  go_wp2_with fail
  go_loopw [5, 13] (fun l i wr => l = .int .i64 0 ∧ i = .int .i64 0 ∧ wr = w) (fun _ _ _ => 0)
  case atStart => exact ⟨rfl, rfl, rfl⟩
  case round =>
    obtain ⟨rfl, rfl, rfl⟩ := hrel
    go_wp2_with (refine wpList_store_blk rfl 37 _ _ rfl _ #[.int .i64 z, .string r, .slice none 0 0] rfl rfl 37 _ KN.out up_size_ses rfl rfl ?_; refine Held.go ?_)
    unfold Held
    have k1 := KN.out.setRow #[.int .i64 z, .string r, .slice none 0 0]
    have hb1 := HB.out.trans (below_of_grown (grown_setRow (wr.alloc (.cells #[.int .i64 0, .string ⟨#[]⟩, .slice none 0 0] 37)) wr.heap.size #[.int .i64 z, .string r, .slice none 0 0]) HB.out.size (fun g e => by cases e; exact Nat.le_refl _))
    generalize (wr.alloc (.cells #[.int .i64 0, .string ⟨#[]⟩, .slice none 0 0] 37)).setRow wr.heap.size #[.int .i64 z, .string r, .slice none 0 0] = w1 at k1 hb1 ⊢
    have e0 : w1.cell? ⟨wr.heap.size, 0, none⟩ = some (.int .i64 z) := k1.cell 0 rfl
    have HB1 := hid hb1
    clear k1 hb1 KN HB c0 c1 c2
    go_wp2_with fail
    go_ret
    exact ⟨rfl, HB1.out⟩
set_option maxHeartbeats 4000000 in
set_option maxRecDepth 20000 in
theorem up_load_arg (b : Nat) (z : Int) (r : ByteArray) (w : World) (h : Blk w b 37 #[.int .i64 z, .string r, .slice none 0 0]) (h1 : 0 < z) (width next : Int) (hw1 : 1 ≤ width) (hw2 : width ≤ 32) (hn1 : 1 ≤ next) (hn2 : next ≤ 1048577) (h2 : next ≤ z) :
    Calls Tryd.prog 19 #[.int .i64 width, .int .i64 next, .slice (some ⟨b, 0, none⟩) 1 1] w fun e w' => e = .returned (.tuple #[.pointer none, .int .i64 2]) ∧ Below w.heap.size w w' := by
  obtain ⟨W, hW, k0, k1, hB, hZ⟩ := up_two w #[.int .i64 0] #[.int .i64 0] 31 65
  have HW := hid hW; have K0 := hid k0; have HB := hid hB; have HZ := hid hZ
  have HU := hid (fun W' (fb : Bool) (e : Int) (h : Blk W' (w.heap.size + 1) 65 #[.int .i64 0]) => up_unless (w.heap.size + 1) fb e 0 W' h)
  have HP := hid (fun W' (hb : Blk W' b 37 #[.int .i64 z, .string r, .slice none 0 0]) => up_possible_one b z next r W' hb h1 h2)
  have KB := hid (h.keep hB)
  have HLT := hid h.lt
  have K1 := hid k1
  clear hW k0 k1 hB hZ h h1 h2
  go_enter_defers Tryd.func19, Tryd.ntmps19
  go_wp2_with fail
  rw [← HW.out]
  refine (HU.out W true 3 K1.out).mono ?_
  rintro _ w1 ⟨rfl, hc, hz, hb⟩
  have K0 := hid (K0.out.chg hc (by simp)); have K1 := hid (show Blk w1 (w.heap.size + 1) 65 #[.int .i64 0] by simpa using hb)
  have KB := hid (KB.out.chg hc (by have := HLT.out; intro hm; have := List.mem_singleton.1 hm; omega))
  have HB := hid (HB.out.trans (hc.below (B := w.heap.size) (fun b hb => by simp at hb; omega) HB.out.size))
  clear hc hz hb HW
  go_wp2_with fail
  refine (HU.out w1 true 3 K1.out).mono ?_
  rintro _ w2 ⟨rfl, hc, hz, hb⟩
  have K0 := hid (K0.out.chg hc (by simp)); have K1 := hid (show Blk w2 (w.heap.size + 1) 65 #[.int .i64 0] by simpa using hb)
  have KB := hid (KB.out.chg hc (by have := HLT.out; intro hm; have := List.mem_singleton.1 hm; omega))
  have HB := hid (HB.out.trans (hc.below (B := w.heap.size) (fun b hb => by simp at hb; omega) HB.out.size))
  clear hc hz hb
  go_wp2_with fail
  refine (HP.out w2 KB.out).mono ?_
  rintro _ w3 ⟨rfl, b3⟩
  have K0 := hid (K0.out.keep b3); have K1 := hid (K1.out.keep b3)
  have HB := hid (HB.out.trans (b3.mono HB.out.size))
  clear b3 KB HP
  go_wp2_with fail
  refine (HU.out w3 false 2 K1.out).mono ?_
  rintro _ w4 ⟨rfl, hc, hz, hb⟩
  have K0 := hid (K0.out.chg hc (by simp)); have K1 := hid (show Blk w4 (w.heap.size + 1) 65 #[.int .i64 2] by simpa using hb)
  have HB := hid (HB.out.trans (hc.below (B := w.heap.size) (fun b hb => by simp at hb; omega) HB.out.size))
  have c0 : w4.cell? ⟨w.heap.size, 0, none⟩ = some (.int .i64 0) := K0.out.cell 0 rfl
  have z0 := K0.out.frozen 0
  clear hc hz hb HU
  go_wp2_with fail
  refine up_door rfl 2 0 0 _ rfl (fun _ => by simp [go_sem]) (fun W z hy hx => up_doorLoad _ _ _ _ _ W hy hx) K0.out K1.out rfl rfl (fun W hW => ⟨rfl, HB.out.trans (hW.below (B := w.heap.size) (fun b hb => by simp at hb; omega) HB.out.size)⟩)
end Go.Proofs.YtgacdimjbpkgoaaDoor
/- The law UploadKnown, walked. -/
namespace Go.Proofs.YtgacdimjbpkgoaaDoor
open Go.RowKit Crc

section
variable {w0 w : World} {base t : Nat} {width next : Int} {ss : List US} {sv : Value} {qs : List (Nat × Value × List Value)}
theorem UpB.not_id (h : UpB w base t width next ss sv qs) {b : Nat} (hb : TyB w b 24) : b ∉ upF t sv qs := fun hm => by
  rcases mem_upF.1 hm with rfl | hm | ⟨x, hx, hm⟩
  · exact h.hd.ty.ne hb (by decide) rfl
  · exact (row_ty h.row hm).ne hb (by decide) rfl
  · obtain ⟨s, _, hs⟩ := h.at_ hx
    rcases hs.tys hm with h1 | h1 | h1
    · exact h1.ne hb (by decide) rfl
    · exact h1.ne hb (by decide) rfl
    · exact h1.ne hb (by decide) rfl
theorem Up1.finish_bad (h : Up1 w0 w t width next ss) (hs : (nosOf ss).Pairwise (· < ·)) (hm : ss.length ≤ 1000000) (x : Int) (hno : hasNo ss x = true) {s : US} (hss : ss[aheadN (nosOf ss) x]? = some s) (hl : s.len ≤ 1000000) (hG : Glob w0) (h1 : 1 ≤ width) (h2 : width ≤ 32) (d : List UInt8) (hd : d.length = 32) (hf : (cutB (sha s.ps.flatten) width == d) = false) :
    Calls Tryd.prog 11 #[.pointer (some ⟨t, 0, none⟩), .int .i64 x, .agg (bcells d)] w fun e w' => e = .returned (.tuple #[.agg sesZ, .int .i64 8]) ∧ Below w.heap.size w w' := by
  obtain ⟨h0, sv, qs, hu⟩ := h
  exact (up_finish hu hs hm x hno hss hl (hG.keep h0) h1 h2 d hd).mono fun e w' hp => hp.1 hf
theorem Up1.finish_yes (h : Up1 w0 w t width next ss) (hs : (nosOf ss).Pairwise (· < ·)) (hm : ss.length ≤ 1000000) (x : Int) (hno : hasNo ss x = true) {s : US} (hss : ss[aheadN (nosOf ss) x]? = some s) (hl : s.len ≤ 1000000) (hG : Glob w0) (h1 : 1 ≤ width) (h2 : width ≤ 32) (d : List UInt8) (hd : d.length = 32) (hf : (cutB (sha s.ps.flatten) width == d) = true) :
    Calls Tryd.prog 11 #[.pointer (some ⟨t, 0, none⟩), .int .i64 x, .agg (bcells d)] w fun e w' => ∃ v, e = .returned (.tuple #[.agg #[.int .i64 s.n, .string s.repo, v], .int .i64 0]) ∧ Own w' w.heap.size 5 v s.len s.ps.flatten ∧ Up1 w0 w' t width next (ss.eraseIdx (aheadN (nosOf ss) x)) ∧ ∀ o cs, Blk w o 24 cs → Blk w' o 24 cs := by
  obtain ⟨h0, sv, qs, hu⟩ := h
  exact (up_finish hu hs hm x hno hss hl (hG.keep h0) h1 h2 d hd).mono fun e w' hp => by
    obtain ⟨v, he, ho, sv', hu', hsub, hc⟩ := hp.2 hf
    exact ⟨v, he, ho, ⟨h0.trans (hc.below (fun b hb => (hu.lt b hb).1) h0.size), sv', _, hu'⟩, fun o cs hk => hk.chg hc (hu.not_id hk.ty)⟩
theorem Up1.finish_no (h : Up1 w0 w t width next ss) (hs : (nosOf ss).Pairwise (· < ·)) (hm : ss.length ≤ 1000000) (x : Int) (hno : hasNo ss x = false) (d : List UInt8) :
    Calls Tryd.prog 11 #[.pointer (some ⟨t, 0, none⟩), .int .i64 x, .agg (bcells d)] w fun e w' => e = .returned (.tuple #[.agg sesZ, .int .i64 12]) ∧ Below w.heap.size w w' := by
  obtain ⟨h0, sv, qs, hu⟩ := h
  exact up_finish_no hu hs hm x hno d
theorem Up1.cancel (h : Up1 w0 w t width next ss) (hs : (nosOf ss).Pairwise (· < ·)) (hm : ss.length ≤ 1000000) (x : Int) (hno : hasNo ss x = true) :
    Calls Tryd.prog 13 #[.pointer (some ⟨t, 0, none⟩), .int .i64 x] w fun e w' => e = .returned (.int .i64 0) ∧ Up1 w0 w' t width next (ss.eraseIdx (aheadN (nosOf ss) x)) := by
  obtain ⟨h0, sv, qs, hu⟩ := h
  exact (up_cancel_yes hu hs hm x hno).mono fun e w' ⟨he, sv', hu', hsub, hc⟩ => ⟨he, h0.trans (hc.below (fun b hb => (hu.lt b hb).1) h0.size), sv', _, hu'⟩
theorem Up1.list_nil (h : Up1 w0 w t width next []) :
    Calls Tryd.prog 15 #[.pointer (some ⟨t, 0, none⟩)] w fun e w' => (∃ A c, e = .returned (.slice A 0 c)) ∧ Below w.heap.size w w' := by
  obtain ⟨h0, sv, qs, hu⟩ := h
  exact up_list_nil hu
theorem Up1.nxt (h : Up1 w0 w t width next ss) :
    Calls Tryd.prog 14 #[.pointer (some ⟨t, 0, none⟩)] w fun e w' => e = .returned (.int .i64 next) ∧ w = w' := by
  obtain ⟨h0, sv, qs, hu⟩ := h
  exact up_next hu.hd
end
def abT : List UInt8 := [97, 98]
def dAB : List UInt8 := cutB (sha abT) 32
theorem dAB_len : dAB.length = 32 := cutB_length _ _ (sha_length _)
theorem dAB_ne : (dAB == zeroB 32) = false := by decide +kernel
/-- where the law is: its table, the digest -/
structure UKn (w0 w : World) (t o : Nat) (d : List UInt8) (next : Int) (ss : List US) : Prop where
  up : Up1 w0 w t 32 next ss
  id : Blk w o 24 (bcells d)
theorem UKn.keep {w0 w w' : World} {t o : Nat} {d : List UInt8} {next : Int} {ss : List US} (h : UKn w0 w t o d next ss) (hb : Below w.heap.size w w') : UKn w0 w' t o d next ss := ⟨h.up.keep hb, h.id.keep hb⟩
theorem up_laid (W : World) (cs : Array Value) : ∃ W', W' = (W.alloc (.cells #[.int .i64 0, .string ⟨#[]⟩, .slice none 0 0] 37)).setRow W.heap.size cs ∧ Blk (W.alloc (.cells #[.int .i64 0, .string ⟨#[]⟩, .slice none 0 0] 37)) W.heap.size 37 #[.int .i64 0, .string ⟨#[]⟩, .slice none 0 0] ∧ Blk W' W.heap.size 37 cs ∧ Below W.heap.size W W' := by
  have kn := Blk.new W 37 #[.int .i64 0, .string ⟨#[]⟩, .slice none 0 0]
  have bn := below_new W (.cells #[.int .i64 0, .string ⟨#[]⟩, .slice none 0 0] 37)
  exact ⟨_, rfl, kn, kn.setRow cs, bn.trans (below_of_grown (grown_setRow _ _ _) bn.size (fun g e => by cases e; exact Nat.le_refl _))⟩
set_option maxRecDepth 100000 in
set_option maxHeartbeats 8000000 in
theorem upknown_calls (w : World) (hG : Glob w) : Calls Tryd.prog 4 #[] w fun e w' => e = .returned (.bool true) ∧ Below w.heap.size w w' := by
  have HG := hid hG
  clear hG
  have EC : Hid ((Tryd.prog.info? 24).map (·.size) = some (bcells dAB).size) := by rw [Hid, bcells_size, dAB_len]; exact (zero_of_info info26).2
  have Hsz : Hid ((bcells (zeroB 32)).size = (bcells dAB).size) := by rw [Hid, bcells_size, bcells_size, dAB_len]; rfl
  go_enter Tryd.func4, Tryd.ntmps4
  go_wp2_with fail
  refine (uone_calls w w (Below.refl _ _)).mono ?_
  rintro _ w1 ⟨t, rfl, h1⟩
  have H1 := hid h1
  clear h1
  go_wp2_with fail
  refine upon_text _ 22 5 Tryd.underlying22 Tryd.underlying5 _ abT rfl 2 rfl ?_
  intro w2 s2 b2
  have H2 := hid (H1.out.keep b2)
  have HO := hid (own_of_calls (w1.heap.size + 1) 2 2 (some ⟨w1.heap.size, 0, none⟩) abT 32 w2 s2 (Nat.le_refl _) (HG.out.keep H2.out.1) (by omega))
  rw [show cutE 32 = 0 from rfl, show cutB (sha abT) 32 = dAB from rfl] at HO
  have hz := (zero_of_info info26).1
  have hdl := dAB_len
  generalize hdg : dAB = dg at HO EC Hsz hdl
  have HDG := hid hdg
  clear s2 b2 H1 hdg
  go_wp2_with fail
  refine HO.out.mono ?_
  rintro _ w3 ⟨rfl, b3⟩
  have H3 := hid (H2.out.keep b3)
  have kn := Blk.new w3 24 (bcells (zeroB 32))
  have KN := hid kn
  have bn := below_new w3 (.cells (bcells (zeroB 32)) 24)
  have hb4 : Below w3.heap.size w3 ((w3.alloc (.cells (bcells (zeroB 32)) 24)).setRow w3.heap.size (bcells dg)) := bn.trans (below_of_grown (grown_setRow _ _ _) bn.size (fun g e => by cases e; exact Nat.le_refl _))
  have H4 := hid (show UKn w ((w3.alloc (.cells (bcells (zeroB 32)) 24)).setRow w3.heap.size (bcells dg)) t w3.heap.size dg 2 ss3 from ⟨H3.out.keep hb4, kn.setRow _⟩)
  clear b3 kn bn hb4 HO H2 H3
  go_wp2_with (refine wpList_store_blk rfl 24 _ _ rfl w3.heap.size _ rfl rfl 24 _ KN.out EC.out Hsz.out (bcells_oneCell _) ?_; refine Held.go ?_)
  unfold Held
  generalize (w3.alloc (.cells (bcells (zeroB 32)) 24)).setRow w3.heap.size (bcells dg) = w4 at H4 ⊢
  generalize w3.heap.size = o at H4 ⊢
  clear KN Hsz
  have HDL := hid hdl
  clear hdl
  have HF := hid (H4.out.up.finish_bad (by decide) (by decide) 1 (by decide) (s := ⟨1, uR, [[97], [98]]⟩) rfl (by decide) HG.out (by omega) (by omega) (zeroB 32) rfl dAB_ne)
  go_wp2_with fail
  refine HF.out.mono ?_
  rintro _ w5 ⟨rfl, b5⟩
  obtain ⟨w6, e6, kz, -, b6⟩ := up_laid w5 sesZ
  have H6 := hid ((H4.out.keep b5).keep b6); have KZ := hid kz; have E6 := hid e6
  clear b5 b6 kz e6 HF H4 hz
  go_wp2_with (refine wpList_store_blk rfl 37 _ _ rfl w5.heap.size sesZ rfl rfl 37 _ KZ.out up_size_ses rfl rfl ?_; refine Held.go ?_)
  unfold Held
  rw [show (w5.alloc (.cells #[.int .i64 0, .string ⟨#[]⟩, .slice none 0 0] 37)).setRow w5.heap.size sesZ = w6 from E6.out.symm]
  clear KZ E6
  have HF := hid (show Calls Tryd.prog 11 #[.pointer (some ⟨t, 0, none⟩), .int .i64 1, .agg (bcells dg)] w6 fun e w' => ∃ v, e = .returned (.tuple #[.agg #[.int .i64 1, .string uR, v], .int .i64 0]) ∧ Own w' w6.heap.size 5 v 2 abT ∧ Up1 w w' t 32 2 [] ∧ ∀ o cs, Blk w6 o 24 cs → Blk w' o 24 cs from
    H6.out.up.finish_yes (by decide) (by decide) 1 (by decide) (s := ⟨1, uR, [[97], [98]]⟩) rfl (by decide) HG.out (by omega) (by omega) dg HDL.out (by rw [← HDG.out]; exact beq_self_eq_true dAB))
  go_wp2_with (refine wpList_load_blk rfl 24 _ rfl o rfl 24 _ H6.out.id _ _ Tryd.underlying24 EC.out ?_)
  refine HF.out.mono ?_
  rintro _ w7 ⟨v, rfl, ho, hu, hk⟩
  obtain ⟨A, c, rfl, -, hsb, -⟩ := ho.sb
  obtain ⟨w8, e8, kz, k8, b8⟩ := up_laid w7 #[.int .i64 1, .string uR, .slice A 2 c]
  have H8 := hid ((show UKn w w7 t o dg 2 [] from ⟨hu, hk _ _ H6.out.id⟩).keep b8); have KZ := hid kz; have E8 := hid e8; have K8 := hid k8; have S8 := hid (hsb.keep b8)
  clear ho hu hk hsb b8 kz e8 k8 HF H6
  go_wp2_with (refine wpList_store_blk rfl 37 _ _ rfl w7.heap.size #[.int .i64 1, .string uR, .slice A 2 c] rfl rfl 37 _ KZ.out up_size_ses rfl rfl ?_; refine Held.go ?_)
  unfold Held
  rw [← E8.out]
  clear KZ E8
  generalize w7.heap.size = q8 at K8 S8 ⊢
  have HF := hid (H8.out.up.finish_no (by decide) (by decide) 1 (by decide) dg)
  go_wp2_with (refine wpList_load_blk rfl 24 _ rfl o rfl 24 _ H8.out.id _ _ Tryd.underlying24 EC.out ?_)
  refine HF.out.mono ?_
  rintro _ w9 ⟨rfl, b9⟩
  obtain ⟨w10, e10, kz, -, b10⟩ := up_laid w9 sesZ
  have H10 := hid ((H8.out.keep b9).keep b10); have KZ := hid kz; have E10 := hid e10; have K8 := hid ((K8.out.keep b9).keep b10); have S8 := hid ((S8.out.keep b9).keep b10)
  clear b9 kz e10 b10 HF H8
  go_wp2_with (refine wpList_store_blk rfl 37 _ _ rfl w9.heap.size sesZ rfl rfl 37 _ KZ.out up_size_ses rfl rfl ?_; refine Held.go ?_)
  unfold Held
  rw [show (w9.alloc (.cells #[.int .i64 0, .string ⟨#[]⟩, .slice none 0 0] 37)).setRow w9.heap.size sesZ = w10 from E10.out.symm]
  clear KZ E10
  go_wp2_with fail
  refine (up_new_bad 0 (by omega) w10).mono ?_
  rintro _ w11 ⟨rfl, bx⟩
  have H11 := hid (H10.out.keep bx); have K8 := hid (K8.out.keep bx); have S8 := hid (S8.out.keep bx)
  clear bx H10
  go_wp2_with fail
  refine (up_new_bad 33 (by omega) w11).mono ?_
  rintro _ w12 ⟨rfl, bx⟩
  have H12 := hid (H11.out.keep bx); have K8 := hid (K8.out.keep bx); have S8 := hid (S8.out.keep bx)
  clear bx H11
  have bx := below_new w12 (.cells #[.int .i64 1, .string uR, .slice none 0 0] 37)
  have HL := hid (up_load_arg w12.heap.size 1 uR _ (Blk.new w12 37 #[.int .i64 1, .string uR, .slice none 0 0]) (by omega) 32 1 (by omega) (by omega) (by omega) (by omega) (by omega))
  have H13 := hid (H12.out.keep bx); have K8 := hid (K8.out.keep bx); have S8 := hid (S8.out.keep bx)
  clear bx H12
  go_wp2_with fail
  refine HL.out.mono ?_
  rintro _ w14 ⟨rfl, bx⟩
  have H14 := hid (H13.out.keep bx); have K8 := hid (K8.out.keep bx); have S8 := hid (S8.out.keep bx)
  clear bx H13 HL
  go_wp2_with fail
  refine (uawake_calls w14).mono ?_
  rintro _ w15 ⟨rfl, bx⟩
  have H15 := hid (H14.out.keep bx); have K8 := hid (K8.out.keep bx); have S8 := hid (S8.out.keep bx)
  clear bx H14
  have c0 : w15.cell? ⟨q8, 0, none⟩ = some (.int .i64 1) := K8.out.cell 0 rfl
  have c1 : w15.cell? ⟨q8, 1, none⟩ = some (.string uR) := K8.out.cell 1 rfl
  have c2 : w15.cell? ⟨q8, 2, none⟩ = some (.slice A 2 c) := K8.out.cell 2 rfl
  go_wp2_with fail
  refine upon_text _ 22 5 Tryd.underlying22 Tryd.underlying5 _ abT rfl 2 rfl ?_
  intro w16 s16 bx
  have H16 := hid (H15.out.keep bx)
  have HSS := hid (up_sameSession 1 uR A (some ⟨w15.heap.size, 0, none⟩) 2 c 2 2 _ _ abT w16 (S8.out.keep bx) s16)
  clear bx s16 c0 c1 c2 H15 K8 S8
  go_wp2_with fail
  refine HSS.out.mono ?_
  rintro _ w17 ⟨rfl, bx⟩
  have H17 := hid (H16.out.keep bx)
  clear bx H16 HSS
  go_wp2_with fail
  refine (ul_starts H17.out.up uR (by decide) repo_r (by decide) (by omega) (by omega)).mono ?_
  rintro _ w18 ⟨rfl, h⟩
  have H18 := hid (show Up1 w w18 t 32 3 [US.mk' 2 uR []] from h)
  clear h H17
  go_wp2_with fail
  refine (H18.out.cancel (by decide) (by decide) 2 (by decide)).mono ?_
  rintro _ w19 ⟨rfl, h⟩
  have H19 := hid (show Up1 w w19 t 32 3 [] from h)
  clear h H18
  go_wp2_with fail
  refine H19.out.list_nil.mono ?_
  rintro _ w20 ⟨⟨AL, cL, rfl⟩, bx⟩
  have H20 := hid (H19.out.keep bx)
  clear bx H19
  go_wp2_with fail
  refine H20.out.nxt.mono ?_
  rintro _ _ ⟨rfl, rfl⟩
  go_wp2_with fail
  go_ret
  exact ⟨rfl, H20.out.1⟩
end Go.Proofs.YtgacdimjbpkgoaaDoor
