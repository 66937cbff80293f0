/- Contracts: awake; the law WireKnown, walked. -/
import Derived.Test.YtcpkjpeimnaimaaWrForm
namespace Go.Proofs.Ytcpkjpeimnaimaa
open Go.RowKit

theorem form_lit (n : Nat) (bs : List UInt8) (cs : Array Value) (k : Nat) (hn : n < 9223372036854775808) (hb : enc n = bs) (hcs : cs = (bs.map bv).toArray) (hk : bs.length = k) (N : Int) (hN : N = (n : Int)) (w : World) :
    Calls Try.prog 55 #[.int .i64 N, .slice (some ⟨w.heap.size, 0, none⟩) k k] (w.alloc (.cells cs 5)) fun e w' => e = .returned (.bool true) ∧ Below w.heap.size w w' := by
  subst hN
  have b1 := below_new w (.cells cs 5)
  refine (form_calls n (w.heap.size + 1) k k hn _ _ (hb ▸ lit_sb w 5 bs cs k hcs hk)).mono ?_
  rintro _ w' ⟨rfl, b2⟩
  exact ⟨rfl, b1.trans (b2.mono b1.size)⟩
theorem fails0_lit (bs : List UInt8) (cs : Array Value) (k : Nat) (most : Int) (e p : Nat) (hE : endS bs (numS bs maxI 0 (.ok 0)).2 = (e, p)) (hcs : cs = (bs.map bv).toArray) (hk : bs.length = k) (hk2 : k ≤ 549755813888) (E P : Int) (he : E = (e : Int)) (hp : P = (p : Int)) (w : World) :
    Calls Try.prog 56 #[.int .i64 0, .int .i64 most, .int .i64 E, .int .i64 P, .slice (some ⟨w.heap.size, 0, none⟩) k k] (w.alloc (.cells cs 5)) fun e w' => e = .returned (.bool true) ∧ Below w.heap.size w w' := by
  subst he hp
  have b1 := below_new w (.cells cs 5)
  refine (fails0 (w.heap.size + 1) k k _ bs most e p _ (lit_sb w 5 bs cs k hcs hk) hk2 hE).mono ?_
  rintro _ w' ⟨rfl, b2⟩
  exact ⟨rfl, b1.trans (b2.mono b1.size)⟩
theorem fails1_lit (bs : List UInt8) (cs : Array Value) (k : Nat) (most : Int) (e p : Nat) (hE : endS bs (sizedS bs most (.ok 0)).2 = (e, p)) (hcs : cs = (bs.map bv).toArray) (hk : bs.length = k) (hk2 : k ≤ 549755813888) (E P : Int) (he : E = (e : Int)) (hp : P = (p : Int)) (w : World) :
    Calls Try.prog 56 #[.int .i64 1, .int .i64 most, .int .i64 E, .int .i64 P, .slice (some ⟨w.heap.size, 0, none⟩) k k] (w.alloc (.cells cs 5)) fun e w' => e = .returned (.bool true) ∧ Below w.heap.size w w' := by
  subst he hp
  have b1 := below_new w (.cells cs 5)
  refine (fails1 (w.heap.size + 1) k k _ bs most e p _ (lit_sb w 5 bs cs k hcs hk) hk2 hE).mono ?_
  rintro _ w' ⟨rfl, b2⟩
  exact ⟨rfl, b1.trans (b2.mono b1.size)⟩
theorem fails4_lit (bs : List UInt8) (cs : Array Value) (k : Nat) (most : Int) (e p : Nat) (hE : endS bs (dotS bs (.ok 0)).2 = (e, p)) (hcs : cs = (bs.map bv).toArray) (hk : bs.length = k) (hk2 : k ≤ 549755813888) (E P : Int) (he : E = (e : Int)) (hp : P = (p : Int)) (w : World) :
    Calls Try.prog 56 #[.int .i64 4, .int .i64 most, .int .i64 E, .int .i64 P, .slice (some ⟨w.heap.size, 0, none⟩) k k] (w.alloc (.cells cs 5)) fun e w' => e = .returned (.bool true) ∧ Below w.heap.size w w' := by
  subst he hp
  have b1 := below_new w (.cells cs 5)
  refine (fails4 (w.heap.size + 1) k k _ bs most e p _ (lit_sb w 5 bs cs k hcs hk) hk2 hE).mono ?_
  rintro _ w' ⟨rfl, b2⟩
  exact ⟨rfl, b1.trans (b2.mono b1.size)⟩
theorem fails6_lit (bs : List UInt8) (cs : Array Value) (k : Nat) (most : Int) (e p : Nat) (hE : endS bs (numS bs 1 5 (.ok 0)).2 = (e, p)) (hcs : cs = (bs.map bv).toArray) (hk : bs.length = k) (hk2 : k ≤ 549755813888) (E P : Int) (he : E = (e : Int)) (hp : P = (p : Int)) (w : World) :
    Calls Try.prog 56 #[.int .i64 6, .int .i64 most, .int .i64 E, .int .i64 P, .slice (some ⟨w.heap.size, 0, none⟩) k k] (w.alloc (.cells cs 5)) fun e w' => e = .returned (.bool true) ∧ Below w.heap.size w w' := by
  subst he hp
  have b1 := below_new w (.cells cs 5)
  refine (fails6 (w.heap.size + 1) k k _ bs most e p _ (lit_sb w 5 bs cs k hcs hk) hk2 hE).mono ?_
  rintro _ w' ⟨rfl, b2⟩
  exact ⟨rfl, b1.trans (b2.mono b1.size)⟩
set_option maxHeartbeats 2000000 in
set_option maxRecDepth 20000 in
theorem awake_calls (w : World) : Calls Try.prog 34 #[] w fun e w' => e = .returned (.bool true) ∧ Below w.heap.size w w' := by
  go_enter Try.func34, Try.ntmps34
  go_wp2_with fail
  refine (form_lit 0 [0] _ 1 (by omega) (by decide +kernel) rfl rfl _ rfl w).mono ?_
  rintro _ a0 ⟨rfl, b⟩
  have B := hid b
  clear b
  go_wp2_with fail
  refine (form_lit 191 [191] _ 1 (by omega) (by decide +kernel) rfl rfl _ rfl a0).mono ?_
  rintro _ a1 ⟨rfl, b⟩
  have B := hid (B.out.trans (b.mono B.out.size))
  clear b
  go_wp2_with fail
  refine (form_lit 192 [192, 192] _ 2 (by omega) (by decide +kernel) rfl rfl _ rfl a1).mono ?_
  rintro _ a2 ⟨rfl, b⟩
  have B := hid (B.out.trans (b.mono B.out.size))
  clear b
  go_wp2_with fail
  refine (form_lit 256 [193, 1, 0] _ 3 (by omega) (by decide +kernel) rfl rfl _ rfl a2).mono ?_
  rintro _ a3 ⟨rfl, b⟩
  have B := hid (B.out.trans (b.mono B.out.size))
  clear b
  go_wp2_with fail
  refine (fails0_lit [192, 5] _ 2 0 5 0 (by decide +kernel) rfl rfl (by omega) _ _ rfl rfl a3).mono ?_
  rintro _ a4 ⟨rfl, b⟩
  have B := hid (B.out.trans (b.mono B.out.size))
  clear b
  go_wp2_with fail
  refine (fails4_lit [1, 2, 7] _ 3 0 4 2 (by decide +kernel) rfl rfl (by omega) _ _ rfl rfl a4).mono ?_
  rintro _ a5 ⟨rfl, b⟩
  have B := hid (B.out.trans (b.mono B.out.size))
  clear b
  go_wp2_with fail
  go_ret
  exact ⟨rfl, B.out⟩
end Go.Proofs.Ytcpkjpeimnaimaa
