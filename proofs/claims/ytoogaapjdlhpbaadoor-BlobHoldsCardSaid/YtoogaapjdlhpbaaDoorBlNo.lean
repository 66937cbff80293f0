/- Keys of a map of digests, the way back: what a key is; a map of no blobs is empty. -/
import Derived.Test.YtoogaapjdlhpbaaDoorBlNew
namespace Go.Proofs.YtoogaapjdlhpbaaDoor
open Go.RowKit Go.WideElems Crc

theorem mapM_each {α β : Type} {f : α → Option β} : ∀ {l : List α} {r : List β}, l.mapM f = some r → ∀ x ∈ l, ∃ y, f x = some y
  | [], _, _, x, hx => by cases hx
  | a :: l, r, h, x, hx => by
    rw [List.mapM_cons] at h
    simp only [bind, Option.bind_eq_some_iff, pure, Option.some.injEq] at h
    obtain ⟨y, hy, ys, hys, -⟩ := h
    rcases List.mem_cons.1 hx with rfl | hx
    · exact ⟨y, hy⟩
    · exact mapM_each hys x hx
def bvOf : Value → UInt8
  | .int _ n => UInt8.ofNat n.toNat
  | _ => 0
set_option maxRecDepth 20000 in
theorem klit_inv {v : Value} {kl : Lit} (h : keyOf Tryd.prog 32 v = some kl) : ∃ l : List UInt8, l.length = 32 ∧ v = .agg (bcells l) := by
  unfold keyOf at h
  rw [Tryd.underlying32] at h
  simp only at h
  by_cases hc : (Tryd.prog.keyType 32 && v.formed Tryd.prog 32) = true
  · rw [if_pos hc] at h
    have hf : v.formed Tryd.prog 32 = true := by simp at hc; exact hc.2
    unfold Value.formed at hf
    rw [Tryd.underlying32] at hf
    cases v with
    | agg cs =>
      have hs : cs.size = 32 := by simpa [bl_cells] using hf
      obtain ⟨m, hm⟩ := bl_types
      rw [hm] at h
      simp only [Value.cells, Option.map_eq_some_iff] at h
      obtain ⟨ls, h, -⟩ := h
      unfold Program.keyLits at h
      rw [Tryd.underlying32] at h
      have hl : cs.toList.length = Tryd.prog.cellsOf 32 := by rw [bl_cells]; simpa using hs
      simp only [hl, if_true, Option.map_eq_some_iff, bl_cells8, Nat.mul_one] at h
      obtain ⟨r, hr, -⟩ := h
      have hall := mapM_each hr
      refine ⟨cs.toList.map bvOf, by simpa using hs, ?_⟩
      congr 1
      unfold bcells
      rw [List.map_map]
      have : cs.toList.map (bv ∘ bvOf) = cs.toList := by
        refine (List.map_congr_left (g := fun x => x) (fun x hx => ?_)).trans (List.map_id' _)
        obtain ⟨i, hi, rfl⟩ := List.mem_iff_getElem.1 hx
        have hi' : i < 32 := by have := hi; simp at this; omega
        obtain ⟨y, hy⟩ := hall i (List.mem_range.2 hi')
        have e : (cs.toList.drop i).take 1 = [cs.toList[i]] := by
          rw [List.drop_eq_getElem_cons hi]
          rfl
        rw [e] at hy
        unfold Program.keyLits at hy
        rw [Tryd.underlying5] at hy
        generalize cs.toList[i] = z at hy ⊢
        cases z <;> simp at hy
        rename_i q n
        obtain ⟨⟨rfl, hw⟩, -⟩ := hy
        have e1 : IntKind.u8.min = 0 := rfl
        have e2 : IntKind.u8.max = 255 := rfl
        simp [Lit.wf, e1, e2] at hw
        show bv (UInt8.ofNat n.toNat) = _
        unfold bv
        have : (UInt8.ofNat n.toNat).toNat = n.toNat := by
          rw [UInt8.toNat_ofNat']
          omega
        rw [this]
        congr 1
        omega
      rw [this]
    | _ => simp at hf
  · rw [if_neg hc] at h
    cases h
/-- no pointer at all: no entry -/
theorem empty_map {w : World} {m n : Nat} {D : DataW Unit} (h : w.ownsMap Tryd.prog 32 ptrElem m n D) (h2 : ∀ id : List UInt8, id.length = 32 → D.atKey (klit id) .nil = .nil) : Maps.size D = 0 ∧ ∀ kl, Maps.has D kl = false := by
  obtain ⟨es, clock, hb, F, hs, rfl⟩ := h
  have : es = #[] := by
    rw [← Array.size_eq_zero_iff]
    rcases Nat.eq_zero_or_pos es.size with h0 | h0
    · exact h0
    · exfalso
      obtain ⟨y, hy⟩ := F.reads es[0] (by simp)
      have hk := rd_key hy
      obtain ⟨l, hl, hv⟩ := klit_inv hk
      have h3 := h2 l hl
      rw [hv] at hk
      rcases Maps.fit_look false bl_keyed Tryd.underlying52 (bl_zero w) hb F hk with ⟨hrun, hno, hat⟩ | ⟨e0, z, _, _, hrun, hRv, hat, _⟩
      · exact absurd hv (hno es[0] (by simp))
      · obtain ⟨b, -, rfl⟩ := ptrElem_inv hRv
        have e := klit_of hl
        rw [hk] at e
        rw [← Option.some.inj e, hat] at h3
        cases h3
  subst this
  exact ⟨rfl, fun kl => rfl⟩
end Go.Proofs.YtoogaapjdlhpbaaDoor
/- Contract of package blob: IDs of a store without blobs. -/
namespace Go.Proofs.YtoogaapjdlhpbaaDoor
open Go.RowKit Crc

theorem infoID : (Tryd.prog.info? 32).map (fun i => (i.zero, i.size, i.bytes)) = some (some (.agg (bcells (zeroB 32))), 32, 32) := by kernel_rfl
theorem dlen_calls (A : Option Addr) (n c : Nat) (w : World) : Calls Tryd.prog 66 #[.slice A n c] w fun e w' => e = .returned (.int .i64 (n : Int)) ∧ w = w' := by
  go_enter Tryd.func66, Tryd.ntmps66
  go_wp2_with fail
  go_ret
  exact ⟨rfl, rfl⟩
set_option maxRecDepth 20000 in
set_option maxHeartbeats 1000000 in
theorem inOrder_nil (m n : Nat) (f : List UInt8 → Option Nat) (w : World) (h : MapP w m n f) (hf : ∀ id : List UInt8, id.length = 32 → f id = none) :
    Calls Tryd.prog 46 #[.map (some m)] w fun e w' => ∃ A c, e = .returned (.slice A 0 c) ∧ Below w.heap.size w w' := by
  obtain ⟨D, ho, hD⟩ := h
  have hem := empty_map ho (fun id hl => by rw [hD id hl, hf id hl]; rfl)
  have HO := hid ho; have HE1 := hid hem.1; have HE2 := hid hem.2
  clear hD hf hem ho
  go_enter Tryd.func46, Tryd.ntmps46
  go_wp2_with (at_range; refine Held.go ?_)
  have hb1 := below_new w (.cells #[] 32)
  have ho1 := HO.out.kept (grown_of_below hb1 none) (by simp)
  have z1 := size_new w (.cells #[] 32)
  generalize w.alloc (.cells #[] 32) = w1 at hb1 ho1 z1 ⊢
  have hb2 := below_new w1 (.cells #[Value.slice (some ⟨w.heap.size, 0, none⟩) 0 0] 98)
  have hk2 := Blk.new w1 98 #[Value.slice (some ⟨w.heap.size, 0, none⟩) 0 0]
  rw [z1] at hk2
  have ho2 := ho1.kept (grown_of_below hb2 none) (by simp)
  generalize w1.alloc (.cells #[Value.slice (some ⟨w.heap.size, 0, none⟩) 0 0] 98) = w2 at hb2 hk2 ho2 ⊢
  have HB2 := hid (hb1.trans (hb2.mono hb1.size)); have HK2 := hid hk2
  refine wpList_range_own w2 rfl _ 52 rfl 32 77 bl_keyed Tryd.underlying52 ptrElem m n D rfl ho2 ?_
  intro w3 hrg hg3 _
  have HB3 := hid (HB2.out.trans (below_of_grown hg3 HB2.out.size (fun g e => by cases e)))
  have HK3 := hid (HK2.out.grown hg3 (by simp))
  have HR := hid hrg
  clear hb1 hb2 hk2 ho1 ho2 hrg hg3 HB2 HK2 z1 HO
  go_frame
  go_wp2_with fail
  go_loopw [11] (fun _ wr => Hid (wr.ranges Tryd.prog 32 ptrElem m w2.heap.size n D (Maps.has D) (Maps.size D)) ∧ Hid (Below w.heap.size w wr) ∧ Hid (Blk wr (w.heap.size + 1) 98 #[Value.slice (some ⟨w.heap.size, 0, none⟩) 0 0])) (fun _ _ => 0)
  case atStart => exact ⟨HR, HB3, HK3⟩
  case round =>
    obtain ⟨hr, hb, hk⟩ := hrel
    clear HR HB3 HK3
    go_wp2_with (at_next; refine Held.go ?_)
    refine wpList_next_ranges wr rfl _ rfl 32 bl_keyed ptrElem (fun l : List UInt8 => .agg (bcells l)) (fun b : Nat => .pointer (some ⟨b, 0, none⟩)) (fun key kl hk => (klit_inv hk).elim fun l hl => ⟨l, hl.2⟩) (fun v y hv => (ptrElem_inv hv).elim fun b hb => ⟨b, hb.1⟩) m w2.heap.size n D _ _ rfl hr.out ?_ ?_
    · intro _ _
      go_wp2_with (at_len; refine Held.go ?_)
      refine wpList_len_own wr rfl _ 52 rfl 32 77 Tryd.underlying52 ptrElem m n D rfl hr.out.owns ?_
      rw [HE1.out]
      go_wp2_with (at_make; refine Held.go ?_)
      obtain ⟨i0, hi, hz, hsz, hby⟩ := info_parts infoID
      refine wpList_make_own wr rfl _ _ 44 rfl wr.heap.size 32 i0 _ 32 Tryd.underlying44 hi hz hsz .i64 .i64 ((0 : Nat) : Int) 0 rfl rfl rfl (by omega) (by simp [maxLen]) (Nat.le_refl _) ?_
      intro w4 _ hg4
      have HB4 := hid (hb.out.trans (below_of_grown hg4 hb.out.size (fun g e => by cases e)))
      have HK4 := hid (hk.out.grown hg4 (by simp))
      clear hr hb hk hg4 hi hz hsz hby
      have c0 : w4.cell? ⟨w.heap.size + 1, 0, none⟩ = some (.slice (some ⟨w.heap.size, 0, none⟩) 0 0) := HK4.out.cell 0 rfl
      go_wp2_with fail
      clear c0
      go_loopw [5, 26] (fun v5 _ wr => (∃ A c, v5 = .slice A 0 c) ∧ Hid (Below w.heap.size w wr) ∧ Hid (Blk wr (w.heap.size + 1) 98 #[Value.slice (some ⟨w.heap.size, 0, none⟩) 0 0])) (fun _ _ _ => 0)
      case atStart => exact ⟨⟨_, _, rfl⟩, HB4, HK4⟩
      case round =>
        clear HB4 HK4
        obtain ⟨⟨A5, c5, rfl⟩, hb, hk⟩ := hrel
        have c0 := hk.out.cell 0 rfl
        go_wp2_with fail
        refine (dlen_calls _ 0 0 _).mono ?_
        rintro _ _ ⟨rfl, rfl⟩
        rw [show ((0 : Nat) : Int) = 0 from rfl]
        go_wp2_with fail
        go_ret
        exact ⟨_, _, rfl, hb.out⟩
    · intro x c kl y w' cnt' _ hl
      rw [HE2.out kl] at hl
      cases hl
section
variable {w : World} {F : List Nat} {s m k : Nat} {b : BS} {f0 : List UInt8 → Option Nat}
theorem ids_nil (hs : StB w F s m k b f0) (h : b.l = []) : Calls Tryd.prog 19 #[.pointer (some ⟨s, 0, none⟩)] w fun e w' => ∃ A c, e = .returned (.slice A 0 c) ∧ Below w.heap.size w w' := by
  have hf : ∀ id : List UInt8, id.length = 32 → f0 id = none := fun id hl => by
    have he := hs.each id hl
    rw [h] at he
    cases hf : f0 id with
    | none => rfl
    | some g => rw [hf] at he; exact he.elim
  have HV := hid (bvalid_calls s _ _ _ _ w hs.hd)
  have HI := hid (inOrder_nil m k f0 w hs.mp hf)
  have c4 : w.cell? ⟨s, 4, none⟩ = some (.map (some m)) := hs.hd.cell 4 rfl
  clear hs hf
  go_enter Tryd.func19, Tryd.ntmps19
  go_wp2_with fail
  refine HV.out.mono ?_
  rintro _ _ ⟨rfl, rfl⟩
  go_wp2_with fail
  refine HI.out.mono ?_
  rintro _ w1 ⟨A, c, rfl, hb⟩
  have HB := hid hb
  clear hb HI HV c4
  go_wp2_with fail
  go_ret
  exact ⟨A, c, rfl, HB.out⟩
end
end Go.Proofs.YtoogaapjdlhpbaaDoor
/- Contracts of package blob: a store that nobody made. Written by tools/mkbl.py. -/
namespace Go.Proofs.YtoogaapjdlhpbaaDoor
open Go.RowKit Crc

def hasNoneVal (h : Value) : Nat → Unit → Value
  | 0, _ => h
  | 1, _ => .bool false
  | 2, _ => .bool false
  | 3, _ => undef
  | 4, _ => undef
  | 5, _ => undef
  | 6, _ => undef
  | 7, _ => undef
  | 8, _ => undef
  | 9, _ => undef
  | 10, _ => .bool false
  | 11, _ => .bool false
  | _, _ => undef
section
variable {h : Value} {w : World}
set_option maxRecDepth 20000 in
set_option maxHeartbeats 1000000 in
theorem hasNone_calls (hn : NoObj w h) (id : List UInt8) : Calls Tryd.prog 42 #[h, .agg (bcells id)] w fun e w' => e = .returned (.bool false) ∧ Below w.heap.size w w' := by
  have bb := below_new w (.cells (bcells id) 32)
  have HN := hid (hn.keep bb); have HB := hid bb
  clear hn bb
  go_enter Tryd.func42, Tryd.ntmps42
  go_wp2_with fail
  generalize w.alloc (.cells (bcells id) 32) = w1 at HN HB ⊢
  generalize hq : w.heap.size = q at ⊢
  have HV := hid (fun W (hb : Below w1.heap.size w1 W) => bvalid_none h W (HN.out.keep hb))
  refine wp_region_invG 16 () (hasNoneVal h) (fun _ _ W => Below w1.heap.size w1 W) (by kernel_rfl) (by kernel_rfl) (by exact Nat.le_refl 16) ?_ ?_ ?_
  · exact (Below.refl _ _).drew
  · intro i o f gh a W hi hf hdep hsame hcl hval hS
    rcases i with _ | _ | _ | _ | _ | _ | _ | _ | _ | _ | _ | _ | i
    all_goals simp only [List.getElem?_cons_succ, List.getElem?_cons_zero, List.getElem?_nil, Option.some.injEq, reduceCtorEq] at hi
    all_goals subst hi
    · have E0 : a.tmps[0]? = some (h) := (same_of hsame 0 (by rfl)).trans rfl
      refine g_plain rfl ?_
      exact does_value (w' := W) (v := h) (by go_simp) ⟨(), .inr rfl, hS⟩
    · have E5 := hval 0 _ 5 rfl rfl (dep_of hdep 0 (by rfl))
      unfold hasNoneVal at E5
      refine g_plain rfl ?_
      refine does_call 45 #[h] (by go_simp) ((HV.out W hS).mono ?_)
      rintro _ _ ⟨rfl, rfl⟩
      exact ⟨_, rfl, (), .inr rfl, hS⟩
    · have E6 := hval 1 _ 6 rfl rfl (dep_of hdep 1 (by rfl))
      unfold hasNoneVal at E6
      refine g_plain rfl ?_
      exact does_value (w' := W) (v := .bool false) (by go_simp) ⟨(), .inr rfl, hS⟩
    · have EG := hval 2 _ 7 rfl rfl (dep_of hdep 2 (by rfl))
      unfold hasNoneVal at EG
      exact g_skip rfl rfl rfl EG rfl ⟨(), .inr rfl, hS⟩
    · have EG := hval 2 _ 7 rfl rfl (dep_of hdep 2 (by rfl))
      unfold hasNoneVal at EG
      exact g_skip rfl rfl rfl EG rfl ⟨(), .inr rfl, hS⟩
    · have EG := hval 2 _ 7 rfl rfl (dep_of hdep 2 (by rfl))
      unfold hasNoneVal at EG
      exact g_skip rfl rfl rfl EG rfl ⟨(), .inr rfl, hS⟩
    · have EG := hval 2 _ 7 rfl rfl (dep_of hdep 2 (by rfl))
      unfold hasNoneVal at EG
      exact g_skip rfl rfl rfl EG rfl ⟨(), .inr rfl, hS⟩
    · have EG := hval 2 _ 7 rfl rfl (dep_of hdep 2 (by rfl))
      unfold hasNoneVal at EG
      exact g_skip rfl rfl rfl EG rfl ⟨(), .inr rfl, hS⟩
    · have EG := hval 2 _ 7 rfl rfl (dep_of hdep 2 (by rfl))
      unfold hasNoneVal at EG
      exact g_skip rfl rfl rfl EG rfl ⟨(), .inr rfl, hS⟩
    · have EG := hval 2 _ 7 rfl rfl (dep_of hdep 2 (by rfl))
      unfold hasNoneVal at EG
      exact g_skip rfl rfl rfl EG rfl ⟨(), .inr rfl, hS⟩
    · have E7 := hval 2 _ 7 rfl rfl (dep_of hdep 2 (by rfl))
      unfold hasNoneVal at E7
      refine g_plain rfl ?_
      exact does_value (w' := W) (v := .bool false) (by go_simp) ⟨(), .inr rfl, hS⟩
    · have E15 := hval 10 _ 15 rfl rfl (dep_of hdep 10 (by rfl))
      unfold hasNoneVal at E15
      refine g_plain rfl ?_
      exact does_value (w' := W) (v := .bool false) (by go_simp) ⟨(), .inr rfl, hS⟩
  · intro gh W hS
    have HB2 := hid (HB.out.trans (hS.mono HB.out.size))
    simp only [putAll, hasNoneVal, Nat.reduceAdd, Nat.zero_add, Act.put, List.setIfInBounds_toArray, List.set_cons_zero, List.set_cons_succ]
    clear hS HV HN HB
    go_wp2_with fail
    go_ret
    exact ⟨rfl, hq ▸ HB2.out⟩
theorem refNone_do (hn : NoObj w h) (p0 p1 p2 br : Nat) (h0 : w.cell? ⟨p0, 0, none⟩ = some h) (hr : Blk w br 96 ((refFns p0 p1 p2).map fnV).toArray) :
    Calls Tryd.prog 55 #[.slice (some ⟨br, 0, none⟩) 5 5] w fun e w' => e = .returned (.int .i64 1) ∧ Below w.heap.size w w' := by
  refine first_calls [1, 0, 0, 0, 0] (refFns p0 p1 p2) br 5 5 w rfl rfl (by omega) (fun j v hv => hr.cell j (by simpa [List.getElem?_map] using ⟨v, hv, rfl⟩)) (fun j e v he hv hj => ?_)
  match j with
  | 0 =>
    cases he; cases hv
    exact ⟨enters_of Tryd.func56 (by kernel_rfl) rfl, fun W hW => Calls.mono (cl1_calls false h p0 W (bvalid_none h W (hn.keep hW)) (cell_keep h0 hW)) fun _ _ h => ⟨h.1, hW.trans (h.2.mono hW.size)⟩⟩
  | j + 1 => exact absurd (hj 0 (by omega)) (by simp)
set_option maxRecDepth 20000 in
set_option maxHeartbeats 1000000 in
theorem refNone_calls (a : Option Addr) (hn : NoObj w (.pointer a)) (id : List UInt8) (A : Option Addr) (n c : Nat) :
    Calls Tryd.prog 41 #[.pointer a, .agg (bcells id), .slice A n c] w fun e w' => e = .returned (.int .i64 1) ∧ Below w.heap.size w w' := by
  obtain ⟨W, hW, k0, k1, k2, kr, hB⟩ : ∃ W, ((((w.alloc (.cells #[.pointer a] 23)).alloc (.cells (bcells id) 32)).alloc (.cells #[.slice A n c] 33)).alloc (.cells ((refFns w.heap.size (w.heap.size + 1) (w.heap.size + 1 + 1)).map fnV).toArray 96)) = W ∧
      Blk W w.heap.size 23 #[.pointer a] ∧ Blk W (w.heap.size + 1) 32 (bcells id) ∧ Blk W (w.heap.size + 1 + 1) 33 #[.slice A n c] ∧ Blk W (w.heap.size + 1 + 1 + 1) 96 ((refFns w.heap.size (w.heap.size + 1) (w.heap.size + 1 + 1)).map fnV).toArray ∧ Below w.heap.size w W := by
    have a1 := Blk.new w 23 #[.pointer a]
    have z1 := size_new w (.cells #[.pointer a] 23)
    have q1 := below_new w (.cells #[.pointer a] 23)
    generalize w.alloc (.cells #[.pointer a] 23) = w1 at a1 z1 q1 ⊢
    have a2 := Blk.new w1 32 (bcells id)
    have z2 := size_new w1 (.cells (bcells id) 32)
    have q2 := below_new w1 (.cells (bcells id) 32)
    rw [z1] at a2
    generalize w1.alloc (.cells (bcells id) 32) = w2 at a2 z2 q2 ⊢
    have a3 := Blk.new w2 33 #[.slice A n c]
    have z3 := size_new w2 (.cells #[.slice A n c] 33)
    have q3 := below_new w2 (.cells #[.slice A n c] 33)
    rw [z2, z1] at a3
    generalize w2.alloc (.cells #[.slice A n c] 33) = w3 at a3 z3 q3 ⊢
    have a4 := Blk.new w3 96 ((refFns w.heap.size (w.heap.size + 1) (w.heap.size + 1 + 1)).map fnV).toArray
    have q4 := below_new w3 (.cells ((refFns w.heap.size (w.heap.size + 1) (w.heap.size + 1 + 1)).map fnV).toArray 96)
    rw [z3, z2, z1] at a4
    have b2 := q1.trans (q2.mono q1.size)
    have b3 := b2.trans (q3.mono b2.size)
    exact ⟨_, rfl, ((a1.keep q2).keep q3).keep q4, (a2.keep q3).keep q4, a3.keep q4, a4, b3.trans (q4.mono b3.size)⟩
  have HDO := hid (refNone_do (hn.keep hB) w.heap.size (w.heap.size + 1) (w.heap.size + 1 + 1) (w.heap.size + 1 + 1 + 1) (k0.cell 0 rfl) kr)
  have HB := hid hB
  rw [← hW] at HDO HB
  clear hW k0 k1 k2 kr hB hn
  go_enter Tryd.func41, Tryd.ntmps41
  go_wp2_with fail
  have hdo : Calls Tryd.prog 55 #[.slice (some ⟨w.heap.size + 1 + 1 + 1, 0, none⟩) 5 5] _ _ := HDO.out
  refine hdo.mono ?_
  rintro _ w2 ⟨rfl, hp⟩
  have HP := hid (HB.out.trans (hp.mono HB.out.size))
  clear hp HDO HB hdo
  go_wp2_with fail
  go_ret
  exact ⟨rfl, HP.out⟩
set_option maxRecDepth 20000 in
set_option maxHeartbeats 1000000 in
theorem putNone_calls (a : Option Addr) (hn : NoObj w (.pointer a)) (id : List UInt8) (hl : id.length = 32) (A : Option Addr) (n c : Nat) :
    Calls Tryd.prog 13 #[.pointer a, .agg (bcells id), .slice A n c] w fun e w' => e = .returned (.tuple #[.bool false, .int .i64 1]) ∧ Below w.heap.size w w' := by
  have HK0 := hid (Blk.new w 32 (bcells id))
  have bb := below_new w (.cells (bcells id) 32)
  have HSZ := hid (show (Tryd.prog.info? 32).map (·.size) = some (bcells id).size from by rw [bcells_size, hl]; kernel_rfl)
  have HBB := hid bb
  have HR := hid (refNone_calls a (hn.keep bb) id A n c)
  clear hn bb
  go_enter Tryd.func13, Tryd.ntmps13
  go_wp2_with (refine wpList_load_blk rfl 32 _ rfl w.heap.size rfl 32 _ HK0.out _ _ Tryd.underlying32 HSZ.out ?_)
  generalize w.alloc (.cells (bcells id) 32) = w1 at HK0 HBB HR ⊢
  refine HR.out.mono ?_
  rintro _ w2 ⟨rfl, b2⟩
  have HB2 := hid (HBB.out.trans (b2.mono HBB.out.size))
  clear b2 HK0 HBB HR
  go_wp2_with fail
  go_ret2
  exact ⟨rfl, HB2.out⟩
set_option maxRecDepth 20000 in
theorem getNone_calls (hn : NoObj w h) (id : List UInt8) (hl : id.length = 32) :
    Calls Tryd.prog 29 #[h, .agg (bcells id)] w fun e w' => e = .returned (.tuple #[.slice none 0 0, .bool false]) ∧ Below w.heap.size w w' := by
  have HK0 := hid (Blk.new w 32 (bcells id))
  have bb := below_new w (.cells (bcells id) 32)
  have HSZ := hid (show (Tryd.prog.info? 32).map (·.size) = some (bcells id).size from by rw [bcells_size, hl]; kernel_rfl)
  have HBB := hid bb
  have HR := hid (hasNone_calls (hn.keep bb) id)
  clear hn bb
  go_enter Tryd.func29, Tryd.ntmps29
  go_wp2_with (refine wpList_load_blk rfl 32 _ rfl w.heap.size rfl 32 _ HK0.out _ _ Tryd.underlying32 HSZ.out ?_)
  generalize w.alloc (.cells (bcells id) 32) = w1 at HK0 HBB HR ⊢
  refine HR.out.mono ?_
  rintro _ w2 ⟨rfl, b2⟩
  have HB2 := hid (HBB.out.trans (b2.mono HBB.out.size))
  clear b2 HK0 HBB HR
  go_wp2_with fail
  go_ret2
  exact ⟨rfl, HB2.out⟩
set_option maxRecDepth 20000 in
theorem sizeNone_calls (hn : NoObj w h) (id : List UInt8) (hl : id.length = 32) :
    Calls Tryd.prog 30 #[h, .agg (bcells id)] w fun e w' => e = .returned (.tuple #[.int .i64 0, .bool false]) ∧ Below w.heap.size w w' := by
  have HK0 := hid (Blk.new w 32 (bcells id))
  have bb := below_new w (.cells (bcells id) 32)
  have HSZ := hid (show (Tryd.prog.info? 32).map (·.size) = some (bcells id).size from by rw [bcells_size, hl]; kernel_rfl)
  have HBB := hid bb
  have HR := hid (hasNone_calls (hn.keep bb) id)
  clear hn bb
  go_enter Tryd.func30, Tryd.ntmps30
  go_wp2_with (refine wpList_load_blk rfl 32 _ rfl w.heap.size rfl 32 _ HK0.out _ _ Tryd.underlying32 HSZ.out ?_)
  generalize w.alloc (.cells (bcells id) 32) = w1 at HK0 HBB HR ⊢
  refine HR.out.mono ?_
  rintro _ w2 ⟨rfl, b2⟩
  have HB2 := hid (HBB.out.trans (b2.mono HBB.out.size))
  clear b2 HK0 HBB HR
  go_wp2_with fail
  go_ret2
  exact ⟨rfl, HB2.out⟩
set_option maxRecDepth 20000 in
theorem dropNone_calls (hn : NoObj w h) (id : List UInt8) (hl : id.length = 32) :
    Calls Tryd.prog 17 #[h, .agg (bcells id)] w fun e w' => e = .returned (.bool false) ∧ Below w.heap.size w w' := by
  have HK0 := hid (Blk.new w 32 (bcells id))
  have bb := below_new w (.cells (bcells id) 32)
  have HSZ := hid (show (Tryd.prog.info? 32).map (·.size) = some (bcells id).size from by rw [bcells_size, hl]; kernel_rfl)
  have HBB := hid bb
  have HR := hid (hasNone_calls (hn.keep bb) id)
  clear hn bb
  go_enter Tryd.func17, Tryd.ntmps17
  go_wp2_with (refine wpList_load_blk rfl 32 _ rfl w.heap.size rfl 32 _ HK0.out _ _ Tryd.underlying32 HSZ.out ?_)
  generalize w.alloc (.cells (bcells id) 32) = w1 at HK0 HBB HR ⊢
  refine HR.out.mono ?_
  rintro _ w2 ⟨rfl, b2⟩
  have HB2 := hid (HBB.out.trans (b2.mono HBB.out.size))
  clear b2 HK0 HBB HR
  go_wp2_with fail
  go_ret
  exact ⟨rfl, HB2.out⟩
theorem usedNone_calls (hn : NoObj w h) : Calls Tryd.prog 23 #[h] w fun e w' => e = .returned (.int .i64 0) ∧ w = w' := by
  have HV := hid (bvalid_none h w hn)
  clear hn
  go_enter Tryd.func23, Tryd.ntmps23
  go_wp2_with fail
  refine HV.out.mono ?_
  rintro _ _ ⟨rfl, rfl⟩
  go_wp2_with fail
  go_ret
  exact ⟨rfl, rfl⟩
theorem widthNone_calls (hn : NoObj w h) : Calls Tryd.prog 25 #[h] w fun e w' => e = .returned (.int .i64 0) ∧ w = w' := by
  have HV := hid (bvalid_none h w hn)
  clear hn
  go_enter Tryd.func25, Tryd.ntmps25
  go_wp2_with fail
  refine HV.out.mono ?_
  rintro _ _ ⟨rfl, rfl⟩
  go_wp2_with fail
  go_ret
  exact ⟨rfl, rfl⟩
theorem roomNone_calls (hn : NoObj w h) : Calls Tryd.prog 26 #[h] w fun e w' => e = .returned (.int .i64 0) ∧ w = w' := by
  have HV := hid (bvalid_none h w hn)
  clear hn
  go_enter Tryd.func26, Tryd.ntmps26
  go_wp2_with fail
  refine HV.out.mono ?_
  rintro _ _ ⟨rfl, rfl⟩
  go_wp2_with fail
  go_ret
  exact ⟨rfl, rfl⟩
theorem idsNone_calls (hn : NoObj w h) : Calls Tryd.prog 19 #[h] w fun e w' => e = .returned (.slice none 0 0) ∧ w = w' := by
  have HV := hid (bvalid_none h w hn)
  clear hn
  go_enter Tryd.func19, Tryd.ntmps19
  go_wp2_with fail
  refine HV.out.mono ?_
  rintro _ _ ⟨rfl, rfl⟩
  go_wp2_with fail
  go_ret
  exact ⟨rfl, rfl⟩
end
end Go.Proofs.YtoogaapjdlhpbaaDoor
