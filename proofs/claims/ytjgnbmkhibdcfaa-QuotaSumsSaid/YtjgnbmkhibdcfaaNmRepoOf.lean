/- Contracts: newRepo, bounded, and Repo at texts of ASCII. -/
import Derived.Test.YtjgnbmkhibdcfaaNmNames
namespace Go.Proofs.Ytjgnbmkhibdcfaa
open Go.RowKit
attribute [local go_sem] eql_func eql_none run_mkF

theorem newRepo_calls (w : World) : Calls Try.prog 67 #[] w fun e w' => e = .returned (.pointer (some ⟨w.heap.size, 0, none⟩)) ∧ Blk w' w.heap.size 115 (rpcells w.heap.size 1) ∧ Below w.heap.size w w' := by
  have k0 : Blk (w.alloc (.cells #[.nilFunc, .nilFunc, .nilFunc, .int .i64 1] 115)) w.heap.size 115 (part [] [.nilFunc, .nilFunc, .nilFunc] [.int .i64 1]) := Blk.new w _ _
  have b0 := below_new w (.cells #[.nilFunc, .nilFunc, .nilFunc, .int .i64 1] 115)
  have EW : Hid ((Try.prog.info? 113).map (·.size) = some 3) := by rw [Hid]; kernel_rfl
  have K0 := hid k0; have B0 := hid b0
  clear k0 b0
  go_enter Try.func67, Try.ntmps67
  go_wp2_with ((refine wpList_store_part rfl 113 _ _ rfl w.heap.size 0 [.func (.func 75) #[] #[], .func (.func 75) #[] #[], .func (.func 76) #[.pointer (some ⟨w.heap.size, 0, none⟩)] #[]] rfl rfl K0.out rfl EW.out rfl (by intro v hv; simp at hv; rcases hv with rfl | rfl | rfl <;> rfl) ?_); refine Held.go ?_)
  have k1 := K0.out.setRow (rpcells w.heap.size 1)
  have b1 := B0.out.trans (below_of_grown (grown_setRow _ w.heap.size (rpcells w.heap.size 1)) (by simp) (fun g' e => by cases e; omega))
  rw [show part [] [Value.func (.func 75) #[] #[], .func (.func 75) #[] #[], .func (.func 76) #[.pointer (some ⟨w.heap.size, 0, none⟩)] #[]] [.int .i64 1] = rpcells w.heap.size 1 from rfl]
  generalize (w.alloc (.cells #[.nilFunc, .nilFunc, .nilFunc, .int .i64 1] 115)).setRow w.heap.size (rpcells w.heap.size 1) = w2 at k1 b1 ⊢
  have K1 := hid k1; have B1 := hid b1
  clear k1 b1 K0 B0 EW
  unfold Held
  go_wp2_with fail
  go_ret
  exact ⟨rfl, K1.out, B1.out⟩
theorem bounded_calls (s : ByteArray) (m : Nat) (hm : s.size ≤ m) (v : Value) (w : World) (P : Ending → World → Prop) (hP : Calls Try.prog 74 #[.string s, v, .int .i64 7] (w.alloc (.cells #[.int .i64 0, .int .i64 0] 97)) P) (Q : Ending → World → Prop)
    (hQ : ∀ e w1, P e w1 → ∃ x y, e = .returned (.agg #[.int .i64 x, .int .i64 y]) ∧ Blk w1 w.heap.size 97 #[.int .i64 0, .int .i64 0] ∧ Q e (w1.setRow w.heap.size #[.int .i64 x, .int .i64 y])) :
    Calls Try.prog 66 #[.string s, .int .i64 (m : Int), v] w Q := by
  have hz := (zero_of_info infoFault).1
  have EF : Hid ((Try.prog.info? 97).map (·.size) = some 2) := (zero_of_info infoFault).2
  have HP := hid hP; have HQ := hid hQ
  have hm1 : ¬ (m : Int) < (s.size : Int) := by omega
  clear hP hQ
  go_enter Try.func66, Try.ntmps66
  go_wp2_with fail
  refine HP.out.mono ?_
  intro e w1 hp
  obtain ⟨x, y, rfl, hb, hq⟩ := HQ.out e w1 hp
  have HB := hid hb; have HQQ := hid hq
  clear hz hb hq hp
  go_wp2_with (refine wpList_store_blk rfl 97 _ _ rfl w.heap.size #[.int .i64 x, .int .i64 y] rfl rfl 97 _ HB.out EF.out rfl (by rfl) ?_)
  exact bodyPost_ret (v := .agg #[.int .i64 x, .int .i64 y]) (results_cell_row rfl _ _ w.heap.size 97 _ (0, 0) _ rfl (HB.out.setRow _) Try.underlying97 rfl EF.out) rfl HQQ.out

theorem repo_calls (s : ByteArray) (l : List UInt8) (hl : l = s.data.toList) (ha : ∀ b ∈ l, b.toNat < 128) (hs : s.size ≤ 128) (w : World) :
    Calls Try.prog 58 #[.string s] w fun e w' => (∃ x y, e = .returned (.agg #[.int .i64 x, .int .i64 y]) ∧ ((∃ pos : Nat, RStop l pos ∧ x = 7 ∧ y = (pos : Int)) ∨ (RDone l ∧ x = 0 ∧ y = 0))) ∧ Below w.heap.size w w' := by
  have hz := (zero_of_info infoFault).1
  have EF : Hid ((Try.prog.info? 97).map (·.size) = some 2) := (zero_of_info infoFault).2
  have K0 := hid (Blk.new w 97 #[.int .i64 0, .int .i64 0])
  have B0 := hid (below_new w (.cells #[.int .i64 0, .int .i64 0] 97))
  have HL := hid hl; have HA := hid ha
  clear hl ha
  go_enter Try.func58, Try.ntmps58
  go_wp2_with fail
  clear hz
  generalize w.alloc (.cells #[.int .i64 0, .int .i64 0] 97) = w1 at K0 B0 ⊢
  refine (newRepo_calls w1).mono ?_
  rintro _ w2 ⟨rfl, k2, b2⟩
  have K02 := hid (K0.out.keep b2)
  have B2 := hid (B0.out.trans (b2.mono B0.out.size))
  have lw := K0.out.lt
  generalize w1.heap.size = g at k2 lw ⊢
  have K2 := hid k2
  clear k2 b2 K0 B0
  go_wp2_with fail
  have hI0 : RI l g 0 68 #[.pointer (some ⟨g, 0, none⟩)] (rpcells g 1) := ⟨by omega, 1, rfl, .inl rfl, by omega, rfl, rfl⟩
  have hex := examine_calls s g 115 (RI l g) (fun _ => True) (RStop l) (fun _ => RDone l) 7 (fun _ _ _ _ => trivial) (repo_step s l HL.out HA.out g) (repo_end s l HL.out g) _ _ _ (w2.alloc (.cells #[.int .i64 0, .int .i64 0] 97)) hI0 (K2.out.alloc _) trivial (by omega)
  refine (bounded_calls s 128 hs _ w2 _ hex (fun e w' => (∃ x y, e = .returned (.agg #[.int .i64 x, .int .i64 y]) ∧ ((∃ pos : Nat, RStop l pos ∧ x = 7 ∧ y = (pos : Int)) ∨ (RDone l ∧ x = 0 ∧ y = 0))) ∧ Blk w' w.heap.size 97 #[.int .i64 0, .int .i64 0] ∧ Below w.heap.size w w') (fun e w3 ⟨gx, h⟩ => ?_)).mono ?_
  · have hk : Blk w3 w2.heap.size 97 #[.int .i64 0, .int .i64 0] := (Blk.new w2 97 #[.int .i64 0, .int .i64 0]).grown gx (by have := K2.out.lt; simp only [ne_eq, Option.some.injEq]; omega)
    have hk0 : Blk w3 w.heap.size 97 #[.int .i64 0, .int .i64 0] := (K02.out.alloc _).grown gx (by simp only [ne_eq, Option.some.injEq]; omega)
    have hb : Below w.heap.size w w3 := (B2.out.alloc (by have := K02.out.lt; omega) _).trans (below_of_grown gx (by have := K02.out.lt; simp; omega) (fun g' e => by cases e; omega))
    have hlt := K02.out.lt
    rcases h with ⟨pos, hst, rfl⟩ | ⟨rfl, _, hdn, _⟩
    · exact ⟨7, (pos : Int), rfl, hk, ⟨7, (pos : Int), rfl, .inl ⟨pos, hst, rfl, rfl⟩⟩, hk0.grown (grown_setRow w3 w2.heap.size _) (by simp only [ne_eq, Option.some.injEq]; omega), hb.trans (below_of_grown (grown_setRow w3 w2.heap.size _) (Nat.le_of_lt hk0.lt) (fun g' e => by cases e; omega))⟩
    · exact ⟨0, 0, rfl, hk, ⟨0, 0, rfl, .inr ⟨hdn, rfl, rfl⟩⟩, hk0.grown (grown_setRow w3 w2.heap.size _) (by simp only [ne_eq, Option.some.injEq]; omega), hb.trans (below_of_grown (grown_setRow w3 w2.heap.size _) (Nat.le_of_lt hk0.lt) (fun g' e => by cases e; omega))⟩
  · rintro e w4 ⟨⟨x, y, rfl, hor⟩, hk, hb⟩
    have K4 := hid hk; have B4 := hid hb; have HOR := hid hor
    clear hk hb hor hex hI0 K02 B2 K2 lw
    go_wp2_with (refine wpList_store_blk rfl 97 _ _ rfl w.heap.size #[.int .i64 x, .int .i64 y] rfl rfl 97 _ K4.out EF.out rfl (by rfl) ?_)
    exact bodyPost_ret (v := .agg #[.int .i64 x, .int .i64 y]) (results_cell_row rfl _ _ w.heap.size 97 _ (0, 0) _ rfl (K4.out.setRow _) Try.underlying97 rfl EF.out) rfl ⟨⟨x, y, rfl, HOR.out⟩, B4.out.trans (below_of_grown (grown_setRow w4 w.heap.size _) (Nat.le_of_lt K4.out.lt) (fun g' e => by cases e; omega))⟩
end Go.Proofs.Ytjgnbmkhibdcfaa
