/- Contract of the reference of clouds: formed. Written by tools/mkcl.py. -/
import Derived.Test.YthjflgnoeenenaaClRfC
namespace Go.Proofs.Ythjflgnoeenenaa
open Go Go.RowKit Cl

theorem OwnN.put {w : World} {base g n c k : Nat} {zs : List Int} (h : OwnN w base (.slice (some ⟨g, 0, none⟩) n c) n zs) (_ : k < n) (z : Int) : OwnN (w.setCell ⟨g, k, none⟩ (.int .i64 z)) base (.slice (some ⟨g, 0, none⟩) n c) n (zs.set k z) := by
  have hl := h.len
  rcases h.2 with ⟨e, _⟩ | ⟨g2, cap, cur, e, hb, hg, hnc, hcm, hcs, ht⟩
  · cases e
  · cases e
    refine ⟨by simp [hl], .inr ⟨g, c, cur.setIfInBounds k (.int .i64 z), rfl, hb, ?_, hnc, hcm, by simpa using hcs, ?_⟩⟩
    · have : Blk w g 3 cur := hg
      exact this.set_ k _
    · rw [Array.toList_setIfInBounds, List.map_set, ← ht, Nat.mul_one, List.take_set]
      rfl
theorem OwnN.frozen {w : World} {base g n c : Nat} {zs : List Int} (h : OwnN w base (.slice (some ⟨g, 0, none⟩) n c) n zs) (i : Nat) : w.frozen? ⟨g, i, none⟩ = false := by
  rcases h.2 with ⟨e, _⟩ | ⟨g2, cap, cur, e, hb, hg, hnc, hcm, hcs, ht⟩
  · cases e
  · cases e
    exact Blk.frozen (g := g) (t := 3) (cs := cur) hg i
theorem OwnN.cellAt {w : World} {base g n c k : Nat} {zs : List Int} {z : Int} (h : OwnN w base (.slice (some ⟨g, 0, none⟩) n c) n zs) (hz : zs[k]? = some z) : w.cell? ⟨g, k, none⟩ = some (.int .i64 z) := by
  have := World.ownsRow.cells h (g := g) rfl k (iv z) (by simp [hz])
  rw [Addr.add_lit, Nat.zero_add] at this
  exact this
theorem OwnN.short {w : World} {base g n c k : Nat} {zs : List Int} (h : OwnN w base (.slice (some ⟨g, 0, none⟩) n c) n zs) (hk : k ≤ n) : OwnN w base (.slice (some ⟨g, 0, none⟩) k c) k (zs.take k) := by
  have hl := h.len
  rcases h.2 with ⟨e, _⟩ | ⟨g2, cap, cur, e, hb, hg, hnc, hcm, hcs, ht⟩
  · cases e
  · cases e
    refine ⟨by simp [hl]; omega, .inr ⟨g, c, cur, rfl, hb, hg, by omega, hcm, hcs, ?_⟩⟩
    rw [List.map_take, ← ht, Nat.mul_one, Nat.mul_one, List.take_take, Nat.min_eq_left hk]
/-- formed's own numbers, and its answer's block, beside each other -/
structure FoS (W0 W : World) (g : Nat) (f : List Int) : Prop where
  res : Blk W g 25 #[.slice none 0 0, .slice none 0 0]
  own : OwnN W (g + 1) (.slice (some ⟨g + 1, 0, none⟩) 16 16) 16 f
  bel : Below g W0 W
section
variable {W0 W W' : World} {g : Nat} {f : List Int}
theorem FoS.keep (h : FoS W0 W g f) (hb : Below W.heap.size W W') : FoS W0 W' g f := ⟨h.res.keep hb, h.own.keep hb, h.bel.trans (hb.mono (Nat.le_of_lt h.res.lt))⟩
theorem FoS.put (h : FoS W0 W g f) {k : Nat} (hk : k < 16) (z : Int) : FoS W0 (W.setCell ⟨g + 1, k, none⟩ (.int .i64 z)) g (f.set k z) :=
  ⟨h.res.far (by show g ≠ g + 1; omega) _, h.own.put hk z, h.bel.trans (below_of_grown (grown_setCell W (g + 1) k _) (Nat.le_of_lt h.res.lt) (fun b e => by cases e; omega))⟩
end
theorem FoS.room {W0 W : World} {g : Nat} {f : List Int} (h : FoS W0 W g f) : g + 2 ≤ W.heap.size := by
  have := (h.own.lt (g + 1) rfl).2
  omega
theorem FoS.low {W0 W : World} {g : Nat} {f : List Int} (h : FoS W0 W g f) (hf : f.length = 16) (x : Nat) (hx : x < 16) : ∃ z, f[x]? = some z ∧ W.cell? ⟨g + 1, x, none⟩ = some (.int .i64 z) ∧ W.frozen? ⟨g + 1, x, none⟩ = false := by
  obtain ⟨z, hz⟩ : ∃ z, f[x]? = some z := ⟨_, List.getElem?_eq_getElem (by omega)⟩
  exact ⟨z, hz, h.own.cellAt hz, h.own.frozen x⟩
theorem ND.block {w w' : World} {A : Option Addr} {n : Nat} {ds : List Dt} (h : ND w A n ds) (hb : ∀ b off, A = some ⟨b, off, none⟩ → 0 < n → w'.heap[b]? = w.heap[b]?) : ND w' A n ds :=
  ⟨h.1, fun hn => by
    obtain ⟨b, off, e, hc⟩ := h.2 hn
    exact ⟨b, off, e, fun j x hj => (World.cell?_of_block (a := ⟨b, off + j, none⟩) (hb b off e hn)).trans (hc j x hj)⟩⟩
theorem FoS.grown {W0 W W' : World} {g : Nat} {f : List Int} {row : Option Nat} (h : FoS W0 W g f) (hg : W.grownBy W' row) (hr : ∀ b, row = some b → g + 2 ≤ b) : FoS W0 W' g f :=
  ⟨h.res.grown hg (fun e => by have := hr g e; omega), h.own.kept hg (.inr (fun e => by have := hr (g + 1) e.symm; omega)), h.bel.trans (below_of_grown hg (Nat.le_of_lt h.res.lt) (fun b e => by have := hr b e; omega))⟩
/-- and the dots that are kept beside, in their variable, the rising ones unchanged -/
structure FpS (W0 W : World) (g q : Nat) (AR : Option Addr) (mr : Nat) (rs : List Dt) (f : List Int) (D : Value) (ys : List Dt) : Prop where
  fo : FoS W0 W g f
  cv : Blk W q 25 #[.slice none 0 0, D]
  own : OwnD W (q + 1) D ys.length ys
  src : ND W AR mr rs
  gq : g + 1 < q
  sep : ∀ b off, AR = some ⟨b, off, none⟩ → 0 < mr → g + 1 < b ∧ b < q
section
variable {W0 W W' : World} {g q mr : Nat} {AR : Option Addr} {rs ys : List Dt} {f : List Int} {D : Value}
theorem FpS.keep (h : FpS W0 W g q AR mr rs f D ys) (hb : Below W.heap.size W W') : FpS W0 W' g q AR mr rs f D ys := ⟨h.fo.keep hb, h.cv.keep hb, h.own.keep hb, h.src.keep hb, h.gq, h.sep⟩
theorem FpS.put (h : FpS W0 W g q AR mr rs f D ys) {k : Nat} (hk : k < 16) (z : Int) : FpS W0 (W.setCell ⟨g + 1, k, none⟩ (.int .i64 z)) g q AR mr rs (f.set k z) D ys := by
  have hg := grown_setCell W (g + 1) k (.int .i64 z)
  have gq := h.gq
  refine ⟨h.fo.put hk z, h.cv.grown hg (fun e => by injection e with e; omega), h.own.kept hg (.inr fun e => ?_), h.src.block fun b off e hn => ?_, gq, h.sep⟩
  · have := (h.own.lt (g + 1) e).1; omega
  · have hb := h.sep b off e hn
    refine hg.block b (by have := h.cv.lt; omega) (fun e => ?_)
    injection e with e; omega
theorem FpS.push (h : FpS W0 W g q AR mr rs f D ys) {D' : Value} {zs : List Dt} (hg : W.grownBy W' D.ownBlock) (ho : OwnD W' (q + 1) D' zs.length zs) : FpS W0 (W'.setCell ⟨q, 1, none⟩ D') g q AR mr rs f D' zs := by
  have gq := h.gq
  have hlt := fun b (e : D.ownBlock = some b) => (h.own.lt b e).1
  have hg2 := grown_setCell W' q 1 D'
  have hcv : Blk W' q 25 #[.slice none 0 0, D] := h.cv.grown hg (fun e => by have := hlt q e; omega)
  refine ⟨(h.fo.grown hg (fun b e => by have := hlt b e; omega)).grown hg2 (fun b e => by injection e with e; omega), ?_, ho.kept hg2 (.inr fun e => ?_), h.src.block fun b off e hn => ?_, gq, h.sep⟩
  · exact hcv.set_ 1 D'
  · have := (ho.lt q e).1; omega
  · have hb := h.sep b off e hn
    have h1 := hg.block b (by have := h.cv.lt; omega) (fun e => by have := hlt b e.symm; omega)
    have h2 := hg2.block b (by have := hcv.lt; omega) (fun e => by injection e with e; omega)
    exact h2.trans h1
end
theorem pad_step {v : List Int} {k : Nat} {x : Int} (h : v[k]? = some x) (hv : v.length ≤ 16) : (v.take k ++ List.replicate (16 - k) (0 : Int)).set k x = v.take (k + 1) ++ List.replicate (16 - (k + 1)) 0 := by
  obtain ⟨hk, hx⟩ := List.getElem?_eq_some_iff.1 h
  have e : 16 - k = (16 - (k + 1)) + 1 := by omega
  rw [e, List.replicate_succ, List.set_append_right _ _ (by rw [List.length_take]; omega), List.length_take, Nat.min_eq_left (by omega), Nat.sub_self, List.set_cons_zero, List.take_add_one, h]
  simp
theorem pad_end (v : List Int) : v.take v.length ++ List.replicate (16 - v.length) (0 : Int) = pad v := by unfold pad; rw [List.take_length]
set_option maxRecDepth 20000 in
set_option maxHeartbeats 500000 in
theorem rFormed_calls (n c m e : Nat) (A B : Option Addr) (v : List Int) (ds : List Dt) (w : World) (h1 : NI w A n v) (h2 : ND w B m ds) (hr : ranged v ds) (hm : m ≤ 900000) :
    Calls Try.prog 43 #[.slice A n c, .slice B m e] w fun x w' => ∃ V D, x = .returned (.agg #[V, D]) ∧ OwnN w' w.heap.size V (formedV v ds).1.length (formedV v ds).1 ∧ OwnD w' w.heap.size D (formedV v ds).2.length (formedV v ds).2 ∧ V.ownBlock ≠ D.ownBlock ∧ Below w.heap.size w w' := by
  have hn : n ≤ 16 := by rw [← h1.1]; exact hr.1
  have H1 := hid h1; have H2 := hid h2; have HR := hid hr
  have L1 := hid h1.1; have L2 := hid h2.1
  have HZ := hid (Blk.new w 25 #[.slice none 0 0, .slice none 0 0])
  have HBN := hid (below_new w (.cells #[.slice none 0 0, .slice none 0 0] 25))
  have HSN := hid (size_new w (.cells #[.slice none 0 0, .slice none 0 0] 25))
  clear h1 h2 hr
  go_enter Try.func43, Try.ntmps43
  go_wp2_with (refine wpList_zeros_ints _ rfl _ _ rfl _ 16 rfl rfl rfl (by omega) ?_; intro w2 ho hb2; refine Held.go ?_)
  rw [HSN.out] at ho
  have HFS := hid (show FoS w w2 w.heap.size (List.replicate 16 0) from ⟨HZ.out.keep hb2, ho, HBN.out.trans (hb2.mono HBN.out.size)⟩)
  clear ho hb2 HZ HBN
  unfold Held
  go_wp2_with fail
  go_loopw [6] (fun i wr => ∃ k : Nat, k ≤ n ∧ i = .int .i64 (k : Int) ∧ Hid (FoS w wr w.heap.size (v.take k ++ List.replicate (16 - k) 0))) (fun i _ => n - (intOf i).toNat)
  case atStart => exact ⟨0, Nat.zero_le _, rfl, HFS⟩
  case round =>
    clear HFS
    obtain ⟨k, hk, rfl, HFS⟩ := hrel
    by_cases hlt : k < n
    · have hlt' : (k : Int) < (n : Int) := by omega
      have hk16 : (k : Int) < 16 := by omega
      have HB1 := hid (HFS.out.bel)
      obtain ⟨b1, o1, x, rfl, hx, hc1⟩ := (H1.out.keep HB1.out).at_ hlt
      have HF2 := hid (show FoS w (wr.setCell ⟨w.heap.size + 1, k, none⟩ (.int .i64 x)) w.heap.size (v.take (k + 1) ++ List.replicate (16 - (k + 1)) 0) from by
        rw [← pad_step hx (by rw [L1.out]; exact hn)]
        exact HFS.out.put (by omega) x)
      have hfz := HFS.out.own.frozen k
      obtain ⟨y, hy⟩ : ∃ y, (v.take k ++ List.replicate (16 - k) (0 : Int))[k]? = some y := ⟨_, List.getElem?_eq_getElem (by rw [List.length_append, List.length_take, List.length_replicate, L1.out]; omega)⟩
      have hcy := HFS.out.own.cellAt hy
      clear hx hy HFS HB1
      go_wp2_with fail
      go_roundw
      case rel => exact ⟨k + 1, hlt, by go_num, HF2⟩
      case measure => simp [intOf]; omega
    · obtain rfl : k = n := by omega
      have HFP := hid (show FoS w wr w.heap.size (pad v) from by rw [← pad_end, L1.out]; exact HFS.out)
      clear HFS hlt
      go_wp2_with fail
      go_loopw [7, 8] (fun R i wr => ∃ (k : Nat) (R' : Value), k ≤ m ∧ i = .int .i64 (k : Int) ∧ R' = R ∧ Hid (FoS w wr w.heap.size (pad v)) ∧ Hid (OwnD wr (w.heap.size + 2) R' (riseI ds k).length (riseI ds k))) (fun _ i _ => m - (intOf i).toNat)
      case atStart => exact ⟨0, _, Nat.zero_le _, rfl, rfl, HFP, hid (by rw [rise_zero]; exact OwnD.nil _ _)⟩
      case round =>
        clear HFP
        obtain ⟨j, R_, hj, rfl, rfl, HFP, HRI⟩ := hrel
        by_cases hlt : j < m
        · have hlt' : (j : Int) < (m : Int) := by omega
          obtain ⟨b1, o1, x, rfl, hx, hc1, hc2⟩ := (H2.out.keep HFP.out.bel).at_ hlt
          have HST := hid (show laid (riseI ds j) x = riseI ds (j + 1) from by
            obtain ⟨h1, h2⟩ := List.getElem?_eq_some_iff.1 hx
            rw [rise_step h1, h2])
          have HCA := hid (rLaid_calls (w.heap.size + 2) (riseI ds j).length R_ (riseI ds j) x wr HRI.out HFP.out.room (by have := rise_len ds j (by rw [L2.out]; omega); omega))
          unfold dvv at HCA
          rw [HST.out] at HCA
          clear hx HST
          go_wp2_with fail
          refine HCA.out.mono ?_
          rintro e W1 ⟨R2, rfl, ho, hb⟩
          have HRI2 := hid ho
          have HFP2 := hid (HFP.out.keep hb)
          clear ho hb HFP HRI HCA
          go_wp2_with fail
          go_roundw
          case rel => exact ⟨j + 1, R2, hlt, by go_num, rfl, HFP2, HRI2⟩
          case measure => simp [intOf]; omega
        · obtain rfl : j = m := by omega
          have HRS := hid (show OwnD wr (w.heap.size + 2) R_ (rising ds).length (rising ds) from by have h := HRI.out; rw [← L2.out, rise_all] at h; exact h)
          clear HRI hlt
          obtain ⟨AR, cR, rfl, hcR, hnd, hab⟩ := HRS.out.nd
          have hmr : (rising ds).length ≤ 900000 := by have := rising_len ds; rw [L2.out] at this; omega
          have hb0 := below_new wr (.cells #[.slice none 0 0, .slice none 0 0] 25)
          have HS0 := hid (size_new wr (.cells #[.slice none 0 0, .slice none 0 0] 25))
          have HFS := hid (show FpS w (wr.alloc (.cells #[.slice none 0 0, .slice none 0 0] 25)) w.heap.size wr.heap.size AR (rising ds).length (rising ds) (walkI v ds 0).1 (.slice none 0 0) (walkI v ds 0).2 from by
            rw [walk_zero]
            refine ⟨HFP.out.keep hb0, Blk.new _ _ _, OwnD.nil _ _, hnd.keep hb0, HFP.out.room, fun b off e hn => ?_⟩
            obtain ⟨ho, -⟩ := hab b off e
            have := HRS.out.lt b ho
            omega)
          obtain ⟨q, hq⟩ : ∃ q, wr.heap.size = q := ⟨_, rfl⟩
          have HQQ := hid hq
          obtain ⟨mr, hmr2⟩ : ∃ mr, (rising ds).length = mr := ⟨_, rfl⟩
          rw [hq, hmr2] at HFS
          have HMR := hid hmr2
          rw [hmr2] at hmr hcR
          have HDT := hid (show ∀ d ∈ rising ds, dotted d from fun d hd => HR.out.2.2 d ((mem_rising ds d).1 hd))
          rw [hmr2]
          clear hb0 hnd hab hq hmr2 HRS HFP
          go_wp2_with fail
          rw [HQQ.out]
          go_wp2_with fail
          go_loopw [10] (fun i wx => ∃ (k : Nat) (D : Value), k ≤ mr ∧ i = .int .i64 (k : Int) ∧ Hid (FpS w wx w.heap.size q AR mr (rising ds) (walkI v ds k).1 D (walkI v ds k).2)) (fun i _ => mr - (intOf i).toNat)
          case atStart => exact ⟨0, _, Nat.zero_le _, rfl, HFS⟩
          case round =>
            clear HFS HS0 HQQ
            obtain ⟨t, D, ht, rfl, HFS⟩ := hrel
            by_cases hlt : t < mr
            · have hlt' : (t : Int) < (mr : Int) := by omega
              obtain ⟨b1, o1, x, rfl, hx, hc1, hc2⟩ := HFS.out.src.at_ hlt
              have hdx := HDT.out x (List.mem_of_getElem? hx)
              have HSTEP := hid (show walkI v ds (t + 1) = stepC (walkI v ds t) x from by
                obtain ⟨h1, h2⟩ := List.getElem?_eq_some_iff.1 hx
                rw [walk_step h1, h2])
              have hfl : (walkI v ds t).1.length = 16 := walk_len (by rw [L1.out]; exact hn) ds t
              have hyl : (walkI v ds t).2.length ≤ t := walk_dots ds t
              have hzb := walk_le HR.out t
              have hcz : (walkI v ds t).1[(x.1 - 1).toNat]? = some (frs (walkI v ds t).1 x.1) := by
                obtain ⟨hcl, hcz⟩ := frs_cell hfl hdx
                rw [hcz]; exact List.getElem?_eq_getElem hcl
              obtain ⟨F, hF⟩ : ∃ F, walkI v ds t = F := ⟨_, rfl⟩
              rw [hF] at HFS HSTEP hfl hyl hzb hcz
              obtain ⟨z, hz⟩ : ∃ z, frs F.1 x.1 = z := ⟨_, rfl⟩
              have hz01 : 0 ≤ z ∧ z ≤ 1048576 := by rw [← hz]; exact hzb _ (List.mem_of_getElem? hcz)
              obtain ⟨R, N⟩ := x
              obtain ⟨hd1, hd2, hd3, hd4⟩ := hdx
              obtain ⟨kx, rfl⟩ : ∃ kx : Nat, R = (kx : Int) + 1 := ⟨(R - 1).toNat, by have : 1 ≤ R := hd1; omega⟩
              have hkx : kx < 16 := by have : (kx : Int) + 1 ≤ 16 := hd2; omega
              have hkx' : (kx : Int) < 16 := by omega
              have hFz : F.1[kx]? = some z := by
                have e : ((kx : Int) + 1 - 1).toNat = kx := by omega
                rw [← hz, ← hcz]
                show _ = F.1[((kx : Int) + 1 - 1).toNat]?
                rw [e]
              have HZE := hid hz
              have hwk : IntKind.i64.wrap ((kx : Int) + 1 - 1) = (kx : Int) := by rw [IntWalk.i64_in _ (by omega)]; omega
              have hwz : IntKind.i64.wrap (z + 1) = z + 1 := IntWalk.i64_in _ (by omega)
              have HHX := hid hx
              clear hx hF hz hcz hzb hd1 hd2 hd3 hd4
              obtain ⟨W1, hW1, hkb, hbw⟩ : ∃ W1, W1 = (wr.alloc (.cells #[.int .i64 0, .int .i64 0] 27)).setRow wr.heap.size #[.int .i64 ((kx : Int) + 1), .int .i64 N] ∧ Blk W1 wr.heap.size 27 #[.int .i64 ((kx : Int) + 1), .int .i64 N] ∧ Below wr.heap.size wr W1 := by
                have hb := below_new wr (.cells #[.int .i64 0, .int .i64 0] 27)
                have hk := Blk.new wr 27 #[.int .i64 0, .int .i64 0]
                exact ⟨_, rfl, hk.setRow _, hb.trans (below_of_grown (grown_setRow _ _ _) (by rw [size_new]; omega) (fun g e => by cases e; exact Nat.le_refl _))⟩
              have HK0 := hid (Blk.new wr 27 #[.int .i64 0, .int .i64 0])
              have HFS1 := hid (HFS.out.keep hbw)
              have HKB := hid hkb; have HW1 := hid hW1
              obtain ⟨bx, hbx⟩ : ∃ bx, wr.heap.size = bx := ⟨_, rfl⟩
              have HBX := hid hbx
              clear hkb hbw hW1 hbx HFS
              go_wp2_with (refine wpList_store_blk rfl _ _ _ rfl wr.heap.size #[.int .i64 ((kx : Int) + 1), .int .i64 N] rfl rfl _ _ HK0.out (by kernel_rfl) rfl (by rfl) ?_; refine Held.go ?_)
              rw [← HW1.out]
              have d0 := HKB.out.cell 0 rfl; have d1 := HKB.out.cell 1 rfl
              have cF := HFS1.out.fo.own.cellAt hFz
              have zF := HFS1.out.fo.own.frozen kx
              rw [HBX.out] at d0 d1
              clear HK0
              unfold Held
              rw [HBX.out]
              have hdr : ∀ (W : World) (k : Nat), Below W.heap.size W (W.drewN k) := fun W k => below_drewN (Below.refl _ _) k
              by_cases hN : N = z + 1
              · subst hN
                go_wp2_with fail
                go_quiet (fail)
                obtain ⟨W2, hW2⟩ : ∃ W2, W1.drewN nq = W2 := ⟨_, rfl⟩
                have hb2 : Below W1.heap.size W1 W2 := by rw [← hW2]; exact hdr W1 nq
                have HFS2 := hid (HFS1.out.keep hb2)
                have HKB2 := hid (HKB.out.keep hb2)
                rw [hW2]
                clear hW2 hb2 d0 d1 cF zF HFS1 HKB HW1 hdr
                have d0 := HKB2.out.cell 0 rfl; have d1 := HKB2.out.cell 1 rfl
                rw [HBX.out] at d0 d1
                have cF := HFS2.out.fo.own.cellAt hFz
                have zF := HFS2.out.fo.own.frozen kx
                have HFN := hid (show FpS w (W2.setCell ⟨w.heap.size + 1, kx, none⟩ (.int .i64 (z + 1))) w.heap.size q (some ⟨b1, o1, none⟩) mr (rising ds) (walkI v ds (t + 1)).1 D (walkI v ds (t + 1)).2 from by
                  rw [HSTEP.out, step_one (by show z + 1 = frs F.1 ((kx : Int) + 1) + 1; rw [HZE.out])]
                  show FpS w _ w.heap.size q (some ⟨b1, o1, none⟩) mr (rising ds) (F.1.set ((kx : Int) + 1 - 1).toNat (frs F.1 ((kx : Int) + 1) + 1)) D F.2
                  rw [HZE.out, show ((kx : Int) + 1 - 1).toNat = kx by omega]
                  exact HFS2.out.put hkx (z + 1))
                go_wp2_with fail
                go_roundw
                case rel => exact ⟨t + 1, D, hlt, by go_num, HFN⟩
                case measure => simp [intOf]; omega
              · have hNb : ((N : Int) == z + 1) = false := by simpa using hN
                go_wp2_with fail
                go_quiet (fail)
                obtain ⟨W2, hW2⟩ : ∃ W2, W1.drewN nq = W2 := ⟨_, rfl⟩
                have hb2 : Below W1.heap.size W1 W2 := by rw [← hW2]; exact hdr W1 nq
                have HFS2 := hid (HFS1.out.keep hb2)
                have HKB2 := hid (HKB.out.keep hb2)
                rw [hW2]
                clear hW2 hb2 d0 d1 cF zF HFS1 HKB HW1
                have d0 := HKB2.out.cell 0 rfl; have d1 := HKB2.out.cell 1 rfl
                rw [HBX.out] at d0 d1
                have cF := HFS2.out.fo.own.cellAt hFz
                by_cases hg : z < N
                · go_wp2_with fail
                  go_quiet (fail)
                  obtain ⟨W3, hW3⟩ : ∃ W3, W2.drewN nq = W3 := ⟨_, rfl⟩
                  have hb3 : Below W2.heap.size W2 W3 := by rw [← hW3]; exact hdr W2 nq
                  have HFS3 := hid (HFS2.out.keep hb3)
                  have HKB3 := hid (HKB2.out.keep hb3)
                  rw [hW3]
                  clear hW3 hb3 d0 d1 cF HFS2 HKB2 hdr
                  have d0 := HKB3.out.cell 0 rfl; have d1 := HKB3.out.cell 1 rfl
                  rw [HBX.out] at d0 d1
                  have c9 := HFS3.out.cv.cell 1 rfl
                  have hb4 := below_new W3 (.cells #[.int .i64 ((kx : Int) + 1), .int .i64 N] 27)
                  have HS4 := hid (size_new W3 (.cells #[.int .i64 ((kx : Int) + 1), .int .i64 N] 27))
                  have HFS4 := hid (HFS3.out.keep hb4)
                  have HN4 := hid (nd_one W3 ((kx : Int) + 1, N))
                  have HQ3 := hid HFS3.out.cv.lt
                  have HSTEP2 := hid (show stepC F ((kx : Int) + 1, N) = (F.1, F.2 ++ [((kx : Int) + 1, N)]) from step_two (by show ¬ N = frs F.1 ((kx : Int) + 1) + 1; rw [HZE.out]; exact hN) (by show frs F.1 ((kx : Int) + 1) < N; rw [HZE.out]; exact hg))
                  clear hb4
                  go_wp2_with (refine wpList_append_dots _ rfl _ _ rfl (q + 1) D F.2.length F.2 rfl HFS4.out.own _ 1 1 [((kx : Int) + 1, N)] rfl HN4.out (by omega) (by rw [HS4.out]; have := HQ3.out; omega) ?_; intro D2 W5 ho hgr _; refine Held.go ?_)
                  obtain ⟨A5, cD5, hD2, -, -, -⟩ := ho.nd
                  subst hD2
                  have HFN := hid (show FpS w (W5.setCell ⟨q, 1, none⟩ (.slice A5 (F.2.length + 1) cD5)) w.heap.size q (some ⟨b1, o1, none⟩) mr (rising ds) (walkI v ds (t + 1)).1 (.slice A5 (F.2.length + 1) cD5) (walkI v ds (t + 1)).2 from by
                    rw [HSTEP.out, HSTEP2.out]
                    exact HFS4.out.push hgr (by rw [List.length_append]; exact ho))
                  have hcv : Blk W5 q 25 #[.slice none 0 0, D] := HFS4.out.cv.grown hgr (fun e => by have := (HFS4.out.own.lt q e).1; omega)
                  have c5 := hcv.cell 1 rfl
                  have z5 := hcv.frozen 1
                  clear hcv ho hgr HFS3 HFS4 HN4 d0 d1 c9 HKB3
                  unfold Held
                  go_wp2_with fail
                  go_roundw
                  case rel => exact ⟨t + 1, _, hlt, by go_num, HFN⟩
                  case measure => simp [intOf]; omega
                · have HSTEP2 := hid (show stepC F ((kx : Int) + 1, N) = F from step_none (by show ¬ N = frs F.1 ((kx : Int) + 1) + 1; rw [HZE.out]; exact hN) (by show ¬ frs F.1 ((kx : Int) + 1) < N; rw [HZE.out]; exact hg))
                  go_wp2_with fail
                  go_quiet (fail)
                  obtain ⟨W3, hW3⟩ : ∃ W3, W2.drewN nq = W3 := ⟨_, rfl⟩
                  have hb3 : Below W2.heap.size W2 W3 := by rw [← hW3]; exact hdr W2 nq
                  have HFN := hid (show FpS w W3 w.heap.size q (some ⟨b1, o1, none⟩) mr (rising ds) (walkI v ds (t + 1)).1 D (walkI v ds (t + 1)).2 from by
                    rw [HSTEP.out, HSTEP2.out]
                    exact HFS2.out.keep hb3)
                  rw [hW3]
                  clear hW3 hb3 d0 d1 cF HFS2 HKB2 hdr
                  go_wp2_with fail
                  go_roundw
                  case rel => exact ⟨t + 1, D, hlt, by go_num, HFN⟩
                  case measure => simp [intOf]; omega
            · obtain rfl : t = mr := by omega
              have HFE := hid (show formedV v ds = (trim (walkI v ds t).1, (walkI v ds t).2) from by rw [← HMR.out]; exact walk_all v ds)
              have hfl : (walkI v ds t).1.length = 16 := walk_len (by rw [L1.out]; exact hn) ds t
              obtain ⟨F, hF⟩ : ∃ F, walkI v ds t = F := ⟨_, rfl⟩
              rw [hF] at HFS HFE hfl
              obtain ⟨AD, cD, rfl, hcD, -, -⟩ := HFS.out.own.nd
              clear hF hlt HDT
              go_wp2_with fail
              go_loop [12] (fun i => ∃ k : Nat, k ≤ 16 ∧ i = .int .i64 (k : Int) ∧ Hid (∀ i (h : i < F.1.length), k ≤ i → F.1[i] = 0)) (fun i => (intOf i).toNat)
              case atStart => exact ⟨16, Nat.le_refl _, rfl, hid (fun i h hi => by omega)⟩
              case round =>
                obtain ⟨k2, hk2, rfl, HZS⟩ := hrel
                by_cases hz : ∃ j z, k2 = j + 1 ∧ F.1[j]? = some z ∧ z = 0
                · obtain ⟨j2, z, hk3, hjz, rfl⟩ := hz
                  have cF := HFS.out.fo.own.cellAt hjz
                  have hwk : IntKind.i64.wrap ((k2 : Int) - 1) = (j2 : Int) := by rw [IntWalk.i64_in _ (by omega)]; omega
                  have hpos : (0 : Int) < (k2 : Int) := by omega
                  have hj16 : (j2 : Int) < 16 := by omega
                  have HZ2 := hid (show ∀ i (h : i < F.1.length), j2 ≤ i → F.1[i] = 0 from fun i h hi => by
                    rcases Nat.eq_or_lt_of_le hi with e | e
                    · subst e
                      exact Option.some.inj ((List.getElem?_eq_getElem h).symm.trans hjz)
                    · exact HZS.out i h (by omega))
                  have hj3 : j2 ≤ 16 := by omega
                  have hlt3 : j2 < k2 := by omega
                  clear hjz hk3 HZS
                  go_wp2_with fail
                  go_round
                  case rel => exact ⟨j2, hj3, rfl, HZ2⟩
                  case measure => simp [intOf]; omega
                · have HTR := hid (show trim F.1 = F.1.take k2 from trim_take (by omega) (HZS.out) (fun h e => hz ⟨k2 - 1, 0, by omega, by rw [← e]; exact List.getElem?_eq_getElem (by omega), rfl⟩))
                  have hcase : ¬ (0 : Int) < (k2 : Int) ∨ ((0 : Int) < (k2 : Int) ∧ ∃ j2 : Nat, ∃ z : Int, IntKind.i64.wrap ((k2 : Int) - 1) = (j2 : Int) ∧ (j2 : Int) < 16 ∧ F.1[j2]? = some z ∧ ¬ z = 0) := by
                    by_cases h : k2 = 0
                    · exact .inl (by omega)
                    · refine .inr ⟨by omega, k2 - 1, F.1[k2 - 1]'(by omega), by rw [IntWalk.i64_in _ (by omega)]; omega, by omega, List.getElem?_eq_getElem (by omega), fun e => hz ⟨k2 - 1, 0, by omega, by rw [← e]; exact List.getElem?_eq_getElem (by omega), rfl⟩⟩
                  have hk16 : (k2 : Int) ≤ 16 := by omega
                  clear hz HZS
                  obtain ⟨g, hg⟩ : ∃ g, w.heap.size = g := ⟨_, rfl⟩
                  have HGG := hid hg
                  have c9 := HFS.out.cv.cell 0 rfl
                  have z9 := HFS.out.cv.frozen 0
                  have hgq := HFS.out.gq
                  have HCV := hid (HFS.out.cv.set_ 0 (.slice (some ⟨g + 1, 0, none⟩) k2 16))
                  have HRS := hid (HFS.out.fo.res.far (p := ⟨q, 0, none⟩) (by show w.heap.size ≠ q; omega) (.slice (some ⟨g + 1, 0, none⟩) k2 16))
                  have HFIN := hid (show ∀ W, W = (wr.setCell ⟨q, 0, none⟩ (.slice (some ⟨g + 1, 0, none⟩) k2 16)).setRow w.heap.size #[.slice (some ⟨g + 1, 0, none⟩) k2 16, .slice AD F.2.length cD] → OwnN W w.heap.size (.slice (some ⟨g + 1, 0, none⟩) k2 16) (formedV v ds).1.length (formedV v ds).1 ∧ OwnD W w.heap.size (.slice AD F.2.length cD) (formedV v ds).2.length (formedV v ds).2 ∧ (Value.slice (some ⟨g + 1, 0, none⟩) k2 16).ownBlock ≠ (Value.slice AD F.2.length cD).ownBlock ∧ Below w.heap.size w W from by
                    rintro W rfl
                    have g1 := grown_setCell wr q 0 (.slice (some ⟨g + 1, 0, none⟩) k2 16)
                    have g2 := grown_setRow (wr.setCell ⟨q, 0, none⟩ (.slice (some ⟨g + 1, 0, none⟩) k2 16)) w.heap.size #[.slice (some ⟨g + 1, 0, none⟩) k2 16, .slice AD F.2.length cD]
                    have hro := HFS.out.fo.room
                    have hD := fun b e => HFS.out.own.lt b e
                    have e1 : (formedV v ds).1 = F.1.take k2 := by rw [HFE.out]; exact HTR.out
                    have e2 : (formedV v ds).2 = F.2 := by rw [HFE.out]
                    rw [e1, e2, List.length_take, hfl, Nat.min_eq_left hk2]
                    have o1 := (HFS.out.fo.own.short hk2)
                    rw [hg] at o1
                    refine ⟨((o1.kept g1 (.inr fun e => ?_)).kept g2 (.inr fun e => ?_)).lower (by omega), ((HFS.out.own.kept g1 (.inr fun e => ?_)).kept g2 (.inr fun e => ?_)).lower (by omega), fun e => ?_, ?_⟩
                    · have e : g + 1 = q := Option.some.inj e
                      omega
                    · have e : g + 1 = w.heap.size := Option.some.inj e
                      omega
                    · have := (hD q e).1; omega
                    · have := (hD _ e).1; omega
                    · have := (hD (g + 1) e.symm).1; omega
                    · exact (HFS.out.fo.bel.trans (below_of_grown g1 (by omega) (fun b e => by injection e with e; omega))).trans (below_of_grown g2 (by have := g1.size; omega) (fun b e => by injection e with e; omega)))
                  rw [hg] at HRS HFIN
                  rcases hcase with hc | ⟨hc, j2, z, hwk, hj16, hjz, hz0⟩
                  · clear HFS HTR HFE
                    rw [hg]
                    go_wp2_with (first | (refine wpList_load_row rfl 25 _ rfl q rfl 25 #[.slice (some ⟨g + 1, 0, none⟩) k2 16, .slice AD F.2.length cD] (0, 0) _ HCV.out Try.underlying25 rfl (by kernel_rfl) ?_) | (refine wpList_store_blk rfl 25 _ _ rfl g #[.slice (some ⟨g + 1, 0, none⟩) k2 16, .slice AD F.2.length cD] rfl rfl 25 _ HRS.out (by kernel_rfl) rfl (by rfl) ?_; refine Held.go ?_))
                    unfold Held
                    have HRE := hid (HRS.out.setRow #[.slice (some ⟨g + 1, 0, none⟩) k2 16, .slice AD F.2.length cD])
                    go_wp2_with fail
                    refine bodyPost_ret (v := .agg #[.slice (some ⟨g + 1, 0, none⟩) k2 16, .slice AD F.2.length cD]) (results_cell_row rfl _ _ g 25 _ (0, 0) _ rfl HRE.out Try.underlying25 rfl (by kernel_rfl)) rfl ?_
                    rw [HGG.out]
                    exact ⟨_, _, rfl, HFIN.out _ rfl⟩
                  · have cF := HFS.out.fo.own.cellAt hjz
                    rw [hg] at cF
                    have hzb : (z == 0) = false := by simpa using hz0
                    clear HFS HTR HFE hjz
                    rw [hg]
                    go_wp2_with (first | (refine wpList_load_row rfl 25 _ rfl q rfl 25 #[.slice (some ⟨g + 1, 0, none⟩) k2 16, .slice AD F.2.length cD] (0, 0) _ HCV.out Try.underlying25 rfl (by kernel_rfl) ?_) | (refine wpList_store_blk rfl 25 _ _ rfl g #[.slice (some ⟨g + 1, 0, none⟩) k2 16, .slice AD F.2.length cD] rfl rfl 25 _ HRS.out (by kernel_rfl) rfl (by rfl) ?_; refine Held.go ?_))
                    unfold Held
                    have HRE := hid (HRS.out.setRow #[.slice (some ⟨g + 1, 0, none⟩) k2 16, .slice AD F.2.length cD])
                    go_wp2_with fail
                    refine bodyPost_ret (v := .agg #[.slice (some ⟨g + 1, 0, none⟩) k2 16, .slice AD F.2.length cD]) (results_cell_row rfl _ _ g 25 _ (0, 0) _ rfl HRE.out Try.underlying25 rfl (by kernel_rfl)) rfl ?_
                    rw [HGG.out]
                    exact ⟨_, _, rfl, HFIN.out _ rfl⟩
end Go.Proofs.Ythjflgnoeenenaa
