/- Contracts: the reference's Seal and Open: what they return, in new memory. -/
import Derived.Test.YtpnobkeeebigeaaProg
import Derived.Test.YtpnobkeeebigeaaKit1
import Derived.Test.YtpnobkeeebigeaaFold
import Derived.Deep.RegionWith
import Derived.Deep.RegionLaw
namespace Go.Proofs.Ytpnobkeeebigeaa
open Go.RowKit Crc
attribute [local go_sem] n_xor n_poly n_not n_not' n_bx n_low n_shr1 n_shr8 n_shr16 n_shr24 n_bxor

theorem refSeal_calls (B n c : Nat) (A : Option Addr) (bs : List UInt8) (w : World) (hs : SB w B A n bs) (hn : n ≤ 549755813888) :
    Calls Try.prog 13 #[.slice A n c] w
      fun e w' => ∃ v, e = .returned v ∧ Own w' w.heap.size 5 v (n + 4) (sealed bs) ∧ Below w.heap.size w w' := by
  go_enter Try.func13, Try.ntmps13
  go_wp2_with fail
  refine (refSum_calls B n c A bs _ hs (by omega)).mono ?_
  rintro e w' ⟨rfl, rfl⟩
  go_wp2_with (at_builtin; refine Held.go ?_)
  have ho := Own.lit w 5 w.heap.size [] #[] 0 rfl rfl (Nat.le_refl _) (by omega)
  have hb := below_new w (.cells #[] 5)
  generalize w.alloc (.cells #[] 5) = w1 at ho hb ⊢
  refine wpList_append_bytes _ rfl _ _ _ rfl _ Try.underlying22 info5 w.heap.size _ 0 [] rfl ho B A n c bs rfl (hs.keep hb) (by omega) hb.size ?_
  intro v2 w2 h1 h2 h3
  have hb2 := hb.trans (below_of_grown h2 hb.size (fun g e => (ho.block g e).1))
  clear h2 h3 ho hb
  rw [Nat.zero_add, List.nil_append] at h1
  go_wp2_with (at_builtin; refine Held.go ?_)
  have ho3 := Own.lit w2 5 w2.heap.size (tail4 (sum bs)) ((tail4 (sum bs)).map bv).toArray 4 rfl rfl (Nat.le_refl _) (by omega)
  have hb3 := below_new w2 (.cells ((tail4 (sum bs)).map bv).toArray 5)
  simp only [tail4, List.map_cons, List.map_nil, bv] at ho3 hb3
  generalize w2.alloc _ = w3 at ho3 hb3 ⊢
  obtain ⟨A3, c3, e3, _, hs3, _⟩ := ho3.sb
  rw [e3]
  have h1' := h1.keep hb3
  refine wpList_append_bytes _ rfl _ _ _ rfl _ Try.underlying22 info5 w.heap.size _ n bs rfl h1' _ A3 4 c3 _ rfl hs3 (by omega) (Nat.le_trans hb2.size hb3.size) ?_
  intro v4 w4 h4 g4 t4
  have hb4 := (hb2.trans (hb3.mono hb2.size)).trans (below_of_grown g4 (Nat.le_trans hb2.size hb3.size) (fun g e => (h1'.block g e).1))
  clear h1 h1' ho3 hb3 e3 hs3 g4 t4 hb2
  go_wp2_with fail
  go_ret
  exact ⟨v4, rfl, h4, hb4⟩

/-- What a reader of sealed bytes is told. -/
def opened (bs : List UInt8) : Option (List UInt8) := if sealed (bs.take (bs.length - 4)) == bs then some (bs.take (bs.length - 4)) else none
end Go.Proofs.Ytpnobkeeebigeaa
