/- Contracts: what the laws of device ask: full, puts, reads, image; the kit's SameBytes. -/
import Derived.Test.YtjenafbkalokoaaDvApi
import Derived.Test.YtjenafbkalokoaaGuard
namespace Go.Proofs.Ytjenafbkalokoaa
open Go.RowKit

theorem sameBytes_calls (B n c B' n' c' : Nat) (A A' : Option Addr) (xs bs : List UInt8) (w : World) (ha : SB w B A n xs) (hb : SB w B' A' n' bs) :
    Calls Try.prog 23 #[.slice A n c, .slice A' n' c'] w fun e w' => e = .returned (.bool (xs == bs)) ∧ w = w' := by
  have h1 := run_str (P := Try.prog) ha c 37 9 5 Try.underlying37 Try.underlying5 Try.underlying9
  have h2 := run_str (P := Try.prog) hb c' 37 9 5 Try.underlying37 Try.underlying5 Try.underlying9
  go_enter Try.func23, Try.ntmps23
  go_wp2_with fail
  go_ret
  exact ⟨ret_bool (strB_eq xs bs), rfl⟩
/-- bytes of one kind ahead, noughts behind -/
def fillB (b : UInt8) (n k : Nat) : List UInt8 := List.replicate k b ++ List.replicate (n - k) 0
theorem fillB_zero (b : UInt8) (n : Nat) : fillB b n 0 = List.replicate n 0 := by simp [fillB]
theorem fillB_full (b : UInt8) (n : Nat) : fillB b n n = List.replicate n b := by simp [fillB]
theorem fillB_next (b : UInt8) (n k : Nat) (h : k < n) : (fillB b n k).set k b = fillB b n (k + 1) := by
  have e : List.replicate (n - k) (0 : UInt8) = 0 :: List.replicate (n - (k + 1)) 0 := by rw [show n - k = (n - (k + 1)) + 1 by omega, List.replicate_succ]
  simp only [fillB, e]
  rw [List.set_append_right _ _ (by simp)]
  simp only [List.length_replicate, Nat.sub_self, List.set_cons_zero]
  rw [List.replicate_succ', List.append_assoc]; rfl
theorem full_calls (b : UInt8) (n : Nat) (hn : n ≤ 1099511627776) (w : World) :
    Calls Try.prog 33 #[.int .u8 (b.toNat : Int), .int .i64 (n : Int)] w fun e w' => ∃ v, e = .returned v ∧ Own w' w.heap.size 5 v n (List.replicate n b) ∧ Below w.heap.size w w' := by
  go_enter Try.func33, Try.ntmps33
  go_wp2_with (at_make; refine Held.go ?_)
  refine wpList_zeros_bytes _ rfl _ _ 37 rfl 5 Try.underlying37 info5' (n : Int) n rfl rfl rfl hn ?_
  intro w1 h1 b1
  have H1 := hid h1; have B1 := hid b1
  clear h1 b1
  go_wp2_with fail
  go_loopw [6] (fun i wr => ∃ k : Nat, k ≤ n ∧ i = .int .i64 (k : Int) ∧ Own wr w.heap.size 5 (.slice (some ⟨w.heap.size, 0, none⟩) n n) n (fillB b n k) ∧ Below w.heap.size w wr) (fun i _ => n - (intOf i).toNat)
  case atStart => exact ⟨0, Nat.zero_le _, rfl, by rw [fillB_zero]; exact H1.out, B1.out⟩
  case round =>
    obtain ⟨k, hk, rfl, ho, hg⟩ := hrel
    have HO := hid ho; have HG := hid hg; clear ho hg H1 B1
    by_cases hlt : k < n
    · have hl : k < (fillB b n k).length := by rw [HO.out.len]; exact hlt
      have hc := World.ownsRow.cellAt HO.out k (by omega)
      have hx : ((fillB b n k).map bv)[k]? = some (.int .u8 (((fillB b n k)[k].toNat : Nat) : Int)) := by simp [hl, bv]
      rw [hx] at hc; clear hx
      have hf := World.ownsRow.frozenAt HO.out k
      generalize (fillB b n k)[k] = x at hc
      have hst := hid (World.ownsRow.stored HO.out k (bv b))
      have HGB := hid (HG.out.size)
      go_wp2_with fail
      go_roundw
      case rel =>
        refine ⟨k + 1, by omega, by go_num, ?_, ?_⟩
        · have := hst.out.1
          rw [← List.map_set, fillB_next b n k hlt] at this
          exact this
        · exact HG.out.trans (below_of_grown hst.out.2 HG.out.size (fun g e => by cases e; exact Nat.le_refl _))
      case measure => simp [intOf]; omega
    · obtain rfl : k = n := by omega
      rw [fillB_full] at HO
      go_wp2_with fail
      go_ret
      exact ⟨_, rfl, HO.out, HG.out⟩
section
variable (base g : Nat) (F : List Nat) (s : DS) (w : World)
def putB (b : UInt8) : List UInt8 := List.replicate 64 b
def okB (e : Nat) : Bool := decide (e = 0)
theorem okB_eq (e : Nat) : (((e : Int)) == 0) = okB e := by
  unfold okB
  by_cases h : e = 0
  · subst h; rfl
  · have : ¬ (e : Int) = 0 := by omega
    simp [h]
theorem DevPost.fresh {w1 w2 : World} {s' : DS} {v : Value} {e : Ending} (k1 : Below w.heap.size w w1) (h : DevPost w1 base F g s' v e w2) : DevPost w base F g s' v e w2 := by
  obtain ⟨he, F', h1, h2, h3⟩ := h
  exact ⟨he, F', h1, (Chg.of_below k1).trans h2 (fun b hb => .inl hb), fun b hb => (h3 b hb).imp id (fun hh => Nat.le_trans k1.size hh)⟩
set_option maxHeartbeats 1000000 in
theorem puts_calls (i : Int) (b : UInt8) (h : DevB w base F g s) (hb : base ≤ w.heap.size) (hk : ∀ k, s.fuse = some k → k < 9223372036854775808) (hlo : s.loose.length ≤ 1000000) :
    Calls Try.prog 30 #[.pointer (some ⟨g, 0, none⟩), .int .i64 i, .int .u8 (b.toNat : Int)] w (DevPost w base F g (writeS s i (putB b)) (.bool (okB (writeE s i 64)))) := by
  have HW := hid (fun w1 v (hb1 : Below w.heap.size w w1) (ho : Own w1 w.heap.size 5 v 64 (List.replicate 64 b)) => show ∃ A2 c2, v = .slice A2 64 c2 ∧ Calls Try.prog 25 #[.pointer (some ⟨g, 0, none⟩), .int .i64 i, .slice A2 64 c2] w1 (DevPost w base F g (writeS s i (putB b)) (.int .i64 (writeE s i 64 : Int))) from by
    obtain ⟨A2, c2, e, _, hs, hblk⟩ := ho.sb
    refine ⟨A2, c2, e, (dWrite_calls base g F s w1 i w1.heap.size 64 c2 A2 _ (h.keep hb1) (Nat.le_trans hb hb1.size) hk hlo hs (fun b off e2 hm => ?_)).mono fun e w' hp => DevPost.fresh base g F w hb1 hp⟩
    have h1 := (hblk b (by rw [e, e2]; rfl)).1
    have h2 := (h.lt b hm).2
    omega)
  have HE := hid (okB_eq (writeE s i 64))
  clear h hb hk hlo
  generalize writeS s i (putB b) = s' at HW ⊢
  generalize writeE s i 64 = e' at HW HE ⊢
  have HF := hid (full_calls b 64 (by omega) w)
  go_enter Try.func30, Try.ntmps30
  go_wp2_with fail
  refine HF.out.mono ?_
  rintro _ w1 ⟨v, rfl, ho, hb⟩
  obtain ⟨A2, c2, rfl, hc⟩ := HW.out w1 v hb ho
  have HC := hid hc
  clear ho hb hc HW HF
  go_wp2_with fail
  refine HC.out.mono ?_
  rintro _ w2 ⟨rfl, hp⟩
  have HK := hid hp
  clear hp HC
  go_wp2_with fail
  go_ret
  exact ⟨by rw [← HE.out]; rfl, HK.out⟩
end
end Go.Proofs.Ytjenafbkalokoaa
