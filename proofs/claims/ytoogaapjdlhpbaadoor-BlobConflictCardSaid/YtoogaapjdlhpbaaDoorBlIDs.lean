/- Contract of package blob: IDs of a store without blobs. -/
import Derived.Test.YtoogaapjdlhpbaaDoorBlKeys
namespace Go.Proofs.YtoogaapjdlhpbaaDoor
open Go.RowKit Crc

theorem infoID : (Tryd.prog.info? 32).map (fun i => (i.zero, i.size, i.bytes)) = some (some (.agg (bcells (zeroB 32))), 32, 32) := by kernel_rfl
theorem dlen_calls (A : Option Addr) (n c : Nat) (w : World) : Calls Tryd.prog 66 #[.slice A n c] w fun e w' => e = .returned (.int .i64 (n : Int)) ∧ w = w' := by
  go_enter Tryd.func66, Tryd.ntmps66
  go_wp2_with fail
  go_ret
  exact ⟨rfl, rfl⟩
set_option maxRecDepth 20000 in
set_option maxHeartbeats 1000000 in
theorem inOrder_nil (m n : Nat) (f : List UInt8 → Option Nat) (w : World) (h : MapP w m n f) (hf : ∀ id : List UInt8, id.length = 32 → f id = none) :
    Calls Tryd.prog 46 #[.map (some m)] w fun e w' => ∃ A c, e = .returned (.slice A 0 c) ∧ Below w.heap.size w w' := by
  obtain ⟨D, ho, hD⟩ := h
  have hem := empty_map ho (fun id hl => by rw [hD id hl, hf id hl]; rfl)
  have HO := hid ho; have HE1 := hid hem.1; have HE2 := hid hem.2
  clear hD hf hem ho
  go_enter Tryd.func46, Tryd.ntmps46
  go_wp2_with (at_range; refine Held.go ?_)
  have hb1 := below_new w (.cells #[] 32)
  have ho1 := HO.out.kept (grown_of_below hb1 none) (by simp)
  have z1 := size_new w (.cells #[] 32)
  generalize w.alloc (.cells #[] 32) = w1 at hb1 ho1 z1 ⊢
  have hb2 := below_new w1 (.cells #[Value.slice (some ⟨w.heap.size, 0, none⟩) 0 0] 98)
  have hk2 := Blk.new w1 98 #[Value.slice (some ⟨w.heap.size, 0, none⟩) 0 0]
  rw [z1] at hk2
  have ho2 := ho1.kept (grown_of_below hb2 none) (by simp)
  generalize w1.alloc (.cells #[Value.slice (some ⟨w.heap.size, 0, none⟩) 0 0] 98) = w2 at hb2 hk2 ho2 ⊢
  have HB2 := hid (hb1.trans (hb2.mono hb1.size)); have HK2 := hid hk2
  refine wpList_range_own w2 rfl _ 52 rfl 32 77 bl_keyed Tryd.underlying52 ptrElem m n D rfl ho2 ?_
  intro w3 hrg hg3 _
  have HB3 := hid (HB2.out.trans (below_of_grown hg3 HB2.out.size (fun g e => by cases e)))
  have HK3 := hid (HK2.out.grown hg3 (by simp))
  have HR := hid hrg
  clear hb1 hb2 hk2 ho1 ho2 hrg hg3 HB2 HK2 z1 HO
  go_frame
  go_wp2_with fail
  go_loopw [11] (fun _ wr => Hid (wr.ranges Tryd.prog 32 ptrElem m w2.heap.size n D (Maps.has D) (Maps.size D)) ∧ Hid (Below w.heap.size w wr) ∧ Hid (Blk wr (w.heap.size + 1) 98 #[Value.slice (some ⟨w.heap.size, 0, none⟩) 0 0])) (fun _ _ => 0)
  case atStart => exact ⟨HR, HB3, HK3⟩
  case round =>
    obtain ⟨hr, hb, hk⟩ := hrel
    clear HR HB3 HK3
    go_wp2_with (at_next; refine Held.go ?_)
    refine wpList_next_ranges wr rfl _ rfl 32 bl_keyed ptrElem (fun l : List UInt8 => .agg (bcells l)) (fun b : Nat => .pointer (some ⟨b, 0, none⟩)) (fun key kl hk => (klit_inv hk).elim fun l hl => ⟨l, hl.2⟩) (fun v y hv => (ptrElem_inv hv).elim fun b hb => ⟨b, hb.1⟩) m w2.heap.size n D _ _ rfl hr.out ?_ ?_
    · intro _ _
      go_wp2_with (at_len; refine Held.go ?_)
      refine wpList_len_own wr rfl _ 52 rfl 32 77 Tryd.underlying52 ptrElem m n D rfl hr.out.owns ?_
      rw [HE1.out]
      go_wp2_with (at_make; refine Held.go ?_)
      obtain ⟨i0, hi, hz, hsz, hby⟩ := info_parts infoID
      refine wpList_make_own wr rfl _ _ 44 rfl wr.heap.size 32 i0 _ 32 Tryd.underlying44 hi hz hsz .i64 .i64 ((0 : Nat) : Int) 0 rfl rfl rfl (by omega) (by simp [maxLen]) (Nat.le_refl _) ?_
      intro w4 _ hg4
      have HB4 := hid (hb.out.trans (below_of_grown hg4 hb.out.size (fun g e => by cases e)))
      have HK4 := hid (hk.out.grown hg4 (by simp))
      clear hr hb hk hg4 hi hz hsz hby
      have c0 : w4.cell? ⟨w.heap.size + 1, 0, none⟩ = some (.slice (some ⟨w.heap.size, 0, none⟩) 0 0) := HK4.out.cell 0 rfl
      go_wp2_with fail
      clear c0
      go_loopw [5, 26] (fun v5 _ wr => (∃ A c, v5 = .slice A 0 c) ∧ Hid (Below w.heap.size w wr) ∧ Hid (Blk wr (w.heap.size + 1) 98 #[Value.slice (some ⟨w.heap.size, 0, none⟩) 0 0])) (fun _ _ _ => 0)
      case atStart => exact ⟨⟨_, _, rfl⟩, HB4, HK4⟩
      case round =>
        clear HB4 HK4
        obtain ⟨⟨A5, c5, rfl⟩, hb, hk⟩ := hrel
        have c0 := hk.out.cell 0 rfl
        go_wp2_with fail
        refine (dlen_calls _ 0 0 _).mono ?_
        rintro _ _ ⟨rfl, rfl⟩
        rw [show ((0 : Nat) : Int) = 0 from rfl]
        go_wp2_with fail
        go_ret
        exact ⟨_, _, rfl, hb.out⟩
    · intro x c kl y w' cnt' _ hl
      rw [HE2.out kl] at hl
      cases hl
section
variable {w : World} {F : List Nat} {s m k : Nat} {b : BS} {f0 : List UInt8 → Option Nat}
theorem ids_nil (hs : StB w F s m k b f0) (h : b.l = []) : Calls Tryd.prog 19 #[.pointer (some ⟨s, 0, none⟩)] w fun e w' => ∃ A c, e = .returned (.slice A 0 c) ∧ Below w.heap.size w w' := by
  have hf : ∀ id : List UInt8, id.length = 32 → f0 id = none := fun id hl => by
    have he := hs.each id hl
    rw [h] at he
    cases hf : f0 id with
    | none => rfl
    | some g => rw [hf] at he; exact he.elim
  have HV := hid (bvalid_calls s _ _ _ _ w hs.hd)
  have HI := hid (inOrder_nil m k f0 w hs.mp hf)
  have c4 : w.cell? ⟨s, 4, none⟩ = some (.map (some m)) := hs.hd.cell 4 rfl
  clear hs hf
  go_enter Tryd.func19, Tryd.ntmps19
  go_wp2_with fail
  refine HV.out.mono ?_
  rintro _ _ ⟨rfl, rfl⟩
  go_wp2_with fail
  refine HI.out.mono ?_
  rintro _ w1 ⟨A, c, rfl, hb⟩
  have HB := hid hb
  clear hb HI HV c4
  go_wp2_with fail
  go_ret
  exact ⟨A, c, rfl, HB.out⟩
end
end Go.Proofs.YtoogaapjdlhpbaaDoor
