/- Contract: the project's Compare. -/
import Derived.Lib.BytesEntry
import Derived.Test.YtjgnbmkhibdcfaaCmpMath
import Derived.Test.YtjgnbmkhibdcfaaShaBytes
import Derived.Test.YtjgnbmkhibdcfaaQuietC
namespace Go.Proofs.Ytjgnbmkhibdcfaa
open Go.RowKit Crc

theorem cmp_same : ∀ (l m : List UInt8), l.length = m.length → cmpL l m = Lib.compareBytes l m
  | [], [], _ => rfl
  | [], _ :: _, h => by simp at h
  | _ :: _, [], h => by simp at h
  | a :: l, b :: m, h => by
    rw [cmpL_cons, Lib.compareBytes, cmp_same l m (by simpa using h)]
    rfl
/-- the entry internal/bytealg.Compare at two whole arrays of bytes -/
theorem run_compare_blk {P : Program} (w : World) (l m : List UInt8) (g1 g2 : Nat) (t1 t2 : TypeId) (n1 n2 c1 c2 : Nat) (h1 : Blk w g1 t1 (bcells l)) (h2 : Blk w g2 t2 (bcells m)) (hl : l.length = n1) (hm : m.length = n2) :
    (Extern.BytealgCompare.compare #[.slice (some ⟨g1, 0, none⟩) n1 c1, .slice (some ⟨g2, 0, none⟩) n2 c2]).run P w = .ok (.int .i64 (Lib.compareBytes l m)) w := by
  have key : ∀ (x : List UInt8) (g : Nat) (t : TypeId) (n : Nat), Blk w g t (bcells x) → x.length = n → (Extern.Bytes.loadBytes ⟨g, 0, none⟩ n .empty).run P w = .ok ⟨x.toArray⟩ w := by
    intro x g t n hb hx
    have := Lib.run_loadBytesX (P := P) w (x.map fun b => (b.toNat : Int)) ⟨g, 0, none⟩ .empty (fun j y hj => by
      have e : (⟨g, 0, none⟩ : Addr).add j = ⟨g, j, none⟩ := by unfold Addr.add; split <;> simp_all
      rw [e]
      refine hb.cell j ?_
      rw [List.getElem?_map] at hj
      obtain ⟨b, hb, rfl⟩ := Option.map_eq_some_iff.1 hj
      exact bcells_at hb)
    rw [List.length_map, hx] at this
    rw [this]
    congr 1
    apply ByteArray.ext
    have : Lib.bytesOf (x.map fun b => (b.toNat : Int)) = x := by
      rw [Lib.bytesOf, List.map_map]
      conv => rhs; rw [← List.map_id x]
      refine List.map_congr_left fun b _ => ?_
      simp
    rw [this]
    show (#[] : Array UInt8) ++ x.toArray = x.toArray
    simp
  change Sem.run P (do pure (goInt (Extern.BytealgCompare.cmp (← Extern.Bytes.bytesOf (.slice (some ⟨g1, 0, none⟩) n1 c1)) (← Extern.Bytes.bytesOf (.slice (some ⟨g2, 0, none⟩) n2 c2))))) w = _
  simp only [Extern.Bytes.bytesOf, Sem.run_bind, Sem.run_pure, key l g1 t1 n1 h1 hl, key m g2 t2 n2 h2 hm, Result.andThen]
  rw [Lib.cmp_eq]
  rfl

theorem cmp47 (w : World) (l m : List UInt8) (g1 g2 : Nat) (t1 t2 : TypeId) (c1 c2 : Nat) (h1 : Blk w g1 t1 (bcells l)) (h2 : Blk w g2 t2 (bcells m)) (hl : l.length = 32) (hm : m.length = 32) :
    (callFunc 61 #[.slice (some ⟨g1, 0, none⟩) 32 c1, .slice (some ⟨g2, 0, none⟩) 32 c2]).run Try.prog w = .ok (.value (.int .i64 (cmpL l m))) w := by
  rw [run_callFunc_extern Try.func61 (by kernel_rfl) (by kernel_rfl) (by kernel_rfl) (e := Extern.BytealgCompare.compare) (by kernel_rfl), run_compare_blk w l m g1 g2 t1 t2 32 32 c1 c2 h1 h2 hl hm]
  simp only [Result.andThen]
  rw [cmp_same l m (by rw [hl, hm])]
theorem bytes_compare (w : World) (l m : List UInt8) (g1 g2 : Nat) (t1 t2 : TypeId) (c1 c2 : Nat) (h1 : Blk w g1 t1 (bcells l)) (h2 : Blk w g2 t2 (bcells m)) (hl : l.length = 32) (hm : m.length = 32) :
    Calls Try.prog 53 #[.slice (some ⟨g1, 0, none⟩) 32 c1, .slice (some ⟨g2, 0, none⟩) 32 c2] w fun e w' => e = .returned (.int .i64 (cmpL l m)) ∧ w' = w := by
  have h := cmp47 w l m g1 g2 t1 t2 c1 c2 h1 h2 hl hm
  clear h1 h2
  go_enter Try.func53, Try.ntmps53
  go_wp2_with fail
  go_ret
  exact ⟨rfl, rfl⟩

set_option maxRecDepth 20000 in
theorem own_compare_calls (l m : List UInt8) (w : World) (hl : l.length = 32) (hm : m.length = 32) :
    Calls Try.prog 37 #[.agg (bcells l), .agg (bcells m)] w fun e w' => e = .returned (.int .i64 (cmpL l m)) ∧ Below w.heap.size w w' := by
  have k0 := ((Blk.new w 32 (bcells l)).alloc (.cells (bcells m) 32))
  have k1 := (Blk.new (w.alloc (.cells (bcells l) 32)) 32 (bcells m))
  have b1 := (((Below.refl w.heap.size w).alloc (Nat.le_refl _) (.cells (bcells l) 32)).alloc (by rw [size_new]; omega) (.cells (bcells m) 32))
  rw [size_new] at k1
  have K0 := hid k0; have K1 := hid k1; have B1 := hid b1; clear k0 k1 b1
  go_enter Try.func37, Try.ntmps37
  go_wp2_with fail
  generalize (w.alloc (.cells (bcells l) 32)).alloc (.cells (bcells m) 32) = wA at K0 K1 B1 ⊢
  generalize hg : w.heap.size = g at K0 K1 B1 ⊢
  have HG := hid hg; clear hg
  refine wp_region_class (fun w' => Blk w' g _ _ ∧ Blk w' (g + 1) _ _ ∧ Below g w w') (by kernel_rfl) (by kernel_rfl) ⟨K0.out.drew, K1.out.drew, B1.out.drew⟩ ?_
  intro S _ at_ hS hin
  have HhS := hid hS; have Hin := hid hin; clear hS hin
  repeat (refine wpQuiet_step (fun K hK => ?_); go_simp; refine hK _ ?_; clear hK K)
  refine quiet_call rfl 53 #[.slice (some ⟨g, 0, none⟩) 32 32, .slice (some ⟨g + 1, 0, none⟩) 32 32] (fun w => by go_simp) _ (fun z => (bytes_compare (at_ z) l m g (g + 1) _ _ 32 32 (HhS.out z).1 (HhS.out z).2.1 hl hm).mono fun e w' ⟨he, hw⟩ => ⟨he, z, hw⟩) ?_
  repeat (refine wpQuiet_step (fun K hK => ?_); go_simp; refine hK _ ?_; clear hK K)
  refine wpQuiet_nil ?_
  clear HhS Hin
  rintro w' ⟨_, _, b1⟩
  go_wp2_with fail
  go_ret
  exact ⟨rfl, by rw [HG.out]; exact b1⟩
end Go.Proofs.Ytjgnbmkhibdcfaa
