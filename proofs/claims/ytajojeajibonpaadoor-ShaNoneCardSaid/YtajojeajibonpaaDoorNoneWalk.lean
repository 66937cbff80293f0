/- The walk of the law that a hash which nobody made takes nothing. -/
import Derived.Test.YtajojeajibonpaaDoorOwnNone
import Derived.Test.YtajojeajibonpaaDoorAwake2
namespace Go.Proofs.YtajojeajibonpaaDoor
open Go.RowKit Crc

def hashZ : Array Value := (Value.pointer none :: strm st00 (zeroB 64) 0).toArray
theorem infoHash : (Tryd.prog.info? 47).map (fun i => (i.zero, i.size)) = some (some (.agg hashZ), 74) := by kernel_rfl
theorem zero_same (w : World) : (Op.equalIn 10000 26 (.agg (bcells (zeroB 32))) (.agg (bcells (zeroB 32)))).run Tryd.prog w = .ok true w := by
  have := run_equal_arr (P := Tryd.prog) 26 5 32 Tryd.underlying26 Tryd.underlying5 (by kernel_rfl) (zeroB 32) (zeroB 32) rfl rfl w
  rw [beq_self_eq_true] at this
  exact this

set_option maxHeartbeats 4000000 in
set_option maxRecDepth 100000 in
theorem none_walk (b : Value) (w : World) (hG : Glob w) : Calls Tryd.prog 5 #[b] w fun e w' => e = .returned (.bool true) ∧ Below w.heap.size w w' := by
  have hbd := (zero_of_info infoHash).1
  have KH := hid ((Blk.new w 47 hashZ).alloc (.cells #[.pointer none, .pointer (some ⟨w.heap.size, 0, none⟩)] 39))
  have ka := (Blk.new (w.alloc (.cells hashZ 47)) 39 #[.pointer none, .pointer (some ⟨w.heap.size, 0, none⟩)])
  rw [size_new] at ka
  have B1 := hid ((below_new w (.cells hashZ 47)).alloc (by rw [size_new]; omega) (.cells #[.pointer none, .pointer (some ⟨w.heap.size, 0, none⟩)] 39))
  have KA := hid ka; have HG := hid hG; clear ka hG
  go_enter Tryd.func5, Tryd.ntmps5
  go_wp2_with fail
  clear hbd
  have G1 := hid (HG.out.keep B1.out)
  have hh : ∀ k, k < 2 → ∃ h, (#[.pointer none, .pointer (some ⟨w.heap.size, 0, none⟩)] : Array Value)[k]? = some h ∧ NoHash ((w.alloc (.cells hashZ 47)).alloc (.cells #[.pointer none, .pointer (some ⟨w.heap.size, 0, none⟩)] 39)) h := fun k hk => by
    match k, hk with
    | 0, _ => exact ⟨_, rfl, .inl rfl⟩
    | 1, _ => exact ⟨_, rfl, .inr ⟨w.heap.size, rfl, KH.out.cell 0 rfl⟩⟩
    | n + 2, h => omega
  generalize (#[.pointer none, .pointer (some ⟨w.heap.size, 0, none⟩)] : Array Value) = cs at KA B1 KH G1 hh ⊢
  generalize (w.alloc (.cells hashZ 47)).alloc (.cells cs 39) = w2 at KA B1 KH G1 hh ⊢
  have HH := hid hh; clear hh
  go_loopw [4] (fun i wr => ∃ k : Nat, k ≤ 2 ∧ i = .int .i64 (k : Int) ∧ Hid (Below w.heap.size w wr) ∧ Hid (Glob wr) ∧ Hid (Below w2.heap.size w2 wr)) (fun i _ => 2 - (intOf i).toNat)
  case atStart => exact ⟨0, by omega, rfl, B1, G1, Below.refl _ _⟩
  case round =>
    clear B1 G1
    obtain ⟨k, hk, rfl, HB, HG1, HB2⟩ := hrel
    by_cases hlt : k < 2
    · obtain ⟨h, hc, hn⟩ := HH.out k hlt
      have hn1 := hid (hn.keep HB2.out)
      have KA1 := hid (KA.out.keep HB2.out)
      have c1 := KA1.out.cell k hc
      have HCk := hid hc
      clear hc hn
      have q0 : (k : Int) < 2 := by omega
      have p0 : (0 : Int) ≤ (k : Int) := by omega
      go_wp2_with fail
      refine (hsum_none h wr hn1.out).mono ?_
      rintro _ w4 ⟨rfl, b4⟩
      have hz := (zero_of_info info26).1
      have K5 := hid (Blk.new w4 26 (bcells (zeroB 32)))
      have EC : Hid ((Tryd.prog.info? 26).map (·.size) = some (bcells (zeroB 32)).size) := (zero_of_info info26).2
      have B5 := hid (b4.alloc b4.size (.cells (bcells (zeroB 32)) 26))
      have lb := b4.size
      clear c1 b4
      go_wp2_with ((refine wpList_store_blk rfl 26 _ _ rfl w4.heap.size _ rfl rfl 26 _ K5.out EC.out rfl (bcells_oneCell _) ?_); refine Held.go ?_)
      have k6 := K5.out.setRow (bcells (zeroB 32))
      have b6 := B5.out.trans (below_of_grown (grown_setRow (w4.alloc (.cells (bcells (zeroB 32)) 26)) w4.heap.size (bcells (zeroB 32))) B5.out.size (fun g' e => by cases e; exact lb))
      generalize (w4.alloc (.cells (bcells (zeroB 32)) 26)).setRow w4.heap.size (bcells (zeroB 32)) = w6 at k6 b6 ⊢
      generalize w4.heap.size = g6 at k6 ⊢
      have K6 := hid k6; have n6 := hid (hn1.out.keep b6); have c6 := (KA1.out.keep b6).cell k HCk.out
      have B6 := hid (HB.out.trans (b6.mono HB.out.size)); have G6 := hid (HG1.out.keep b6); have B26 := hid (HB2.out.trans (b6.mono HB2.out.size))
      clear k6 b6 K5 B5 lb hn1 KA1
      have heq := zero_same
      unfold Held
      go_wp2_with fail
      refine (hwrite_none h b w6 n6.out).mono ?_
      rintro _ w7 ⟨rfl, rfl⟩
      go_wp2_with fail
      refine (hlen_none h w6 n6.out).mono ?_
      rintro _ w7 ⟨rfl, rfl⟩
      try dsimp only
      repeat (first | ((with_reducible refine wpList_load_blk_g ?_ 26 (.tmp 5) ?_ g6 ?_ 26 _ K6.out _ _ Tryd.underlying26 EC.out ?_); exact rfl; exact rfl; exact rfl) | go_values | go_guarded | go_step | go_upon | go_back)
      go_wp2_with fail
      go_roundw
      case rel => exact ⟨k + 1, by omega, by go_num, B6, G6, B26⟩
      case measure => simp [intOf]; omega
    · have q0 : ¬ (k : Int) < 2 := by omega
      go_wp2_with fail
      refine (awake_calls wr HG1.out).mono ?_
      rintro _ w4 ⟨rfl, b4⟩
      go_wp2_with fail
      go_ret
      exact ⟨rfl, HB.out.trans (b4.mono HB.out.size)⟩
end Go.Proofs.YtajojeajibonpaaDoor
