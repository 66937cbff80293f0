/- The law CrcDamage, walked: true for any bytes, any place, any turn. -/
import Derived.Test.YtpnobkeeebigeaaKnown
import Derived.Test.YtpnobkeeebigeaaDamMath
import Derived.BigRegion
namespace Go.Proofs.Ytpnobkeeebigeaa
open Go.RowKit Crc
attribute [local go_sem] n_bxor

/-- s, the first k of the four at a turned -/
def dmg (s ts : List UInt8) (a : Nat) : Nat → List UInt8
  | 0 => s
  | k + 1 => (dmg s ts a k).set (a + k) (bxor ((dmg s ts a k).getD (a + k) 0) (ts.getD k 0))
theorem dmg_length (s ts : List UInt8) (a : Nat) : ∀ k, (dmg s ts a k).length = s.length
  | 0 => rfl
  | k + 1 => by rw [dmg, List.length_set, dmg_length s ts a k]
theorem dmg_four (pre post : List UInt8) (a b c d t0 t1 t2 t3 : UInt8) :
    dmg (pre ++ [a, b, c, d] ++ post) [t0, t1, t2, t3] pre.length 4 = pre ++ [a ^^^ t0, b ^^^ t1, c ^^^ t2, d ^^^ t3] ++ post := by
  simp [dmg, bxor, List.append_assoc, List.getD]
theorem split_four {s : List UInt8} {a : Nat} (h : a + 4 ≤ s.length) : ∃ pre x0 x1 x2 x3 post, s = pre ++ [x0, x1, x2, x3] ++ post ∧ pre.length = a := by
  refine ⟨s.take a, ?_⟩
  have hl : ((s.drop a).take 4).length = 4 := by rw [List.length_take, List.length_drop]; omega
  match hd : (s.drop a).take 4, hl with
  | [x0, x1, x2, x3], _ =>
    refine ⟨x0, x1, x2, x3, s.drop (a + 4), ?_, by rw [List.length_take]; omega⟩
    rw [← hd, List.append_assoc, ← List.drop_drop, List.take_append_drop, List.take_append_drop]
theorem dmg_opens {bs ts : List UInt8} {a : Nat} {t0 t1 t2 t3 : UInt8} (hts : ts = [t0, t1, t2, t3]) (ha : a + 4 ≤ (sealed bs).length) (hne : (ts == [0, 0, 0, 0]) = false) :
    (openB (dmg (sealed bs) ts a 4) == [] && openE (dmg (sealed bs) ts a 4) == 5) = true := by
  subst hts
  obtain ⟨pre, x0, x1, x2, x3, post, e, rfl⟩ := split_four ha
  have h := damaged pre post x0 x1 x2 x3 t0 t1 t2 t3 bs e (fun ⟨h0, h1, h2, h3⟩ => by subst h0 h1 h2 h3; simp at hne)
  rw [e, dmg_four, h.1, h.2]; rfl

theorem damage_long (n c : Nat) (A : Option Addr) (x : Int) (t : Array Value) (w : World) (hn : 300 < n) :
    Calls Try.prog 6 #[.slice A n c, .int .i64 x, .agg t] w fun e w' => e = .returned (.bool true) ∧ Below w.heap.size w w' := by
  go_enter Try.func6, Try.ntmps6
  go_wp2_with fail
  refine (known_calls _).mono ?_
  rintro e w8 ⟨rfl, b8⟩
  have B8 := hid ((below_new w _).trans (b8.mono (by rw [size_new]; omega))); clear b8
  go_wp2_with fail
  go_ret
  exact ⟨rfl, B8.out⟩

set_option maxRecDepth 100000 in
theorem damage_walk (B n c : Nat) (A : Option Addr) (bs : List UInt8) (x : Int) (t0 t1 t2 t3 : UInt8) (w : World) (hs : SB w B A n bs) (hn : n ≤ 300) :
    Calls Try.prog 6 #[.slice A n c, .int .i64 x, .agg #[.int .u8 (t0.toNat : Int), .int .u8 (t1.toNat : Int), .int .u8 (t2.toNat : Int), .int .u8 (t3.toNat : Int)]] w
      fun e w' => e = .returned (.bool true) ∧ Below w.heap.size w w' := by
  have k0 := Blk.new w 39 #[.int .u8 (t0.toNat : Int), .int .u8 (t1.toNat : Int), .int .u8 (t2.toNat : Int), .int .u8 (t3.toNat : Int)]
  have b0 := below_new w (.cells #[.int .u8 (t0.toNat : Int), .int .u8 (t1.toNat : Int), .int .u8 (t2.toNat : Int), .int .u8 (t3.toNat : Int)] 39)
  have B0 := hid b0; have K0 := hid k0; clear k0 b0
  have hq : ∀ W : World, (Op.equalIn 10000 39 (.agg #[.int .u8 (t0.toNat : Int), .int .u8 (t1.toNat : Int), .int .u8 (t2.toNat : Int), .int .u8 (t3.toNat : Int)]) (.agg #[.int .u8 0, .int .u8 0, .int .u8 0, .int .u8 0])).run Try.prog W = .ok ([t0, t1, t2, t3] == [0, 0, 0, 0]) W :=
    fun W => run_equal_arr (P := Try.prog) 39 5 4 Try.underlying39 Try.underlying5 (by kernel_rfl) [t0, t1, t2, t3] [0, 0, 0, 0] rfl rfl W
  have HQ := hid hq; clear hq
  go_enter Try.func6, Try.ntmps6
  go_wp2_with fail
  generalize w.alloc (.cells #[.int .u8 (t0.toNat : Int), .int .u8 (t1.toNat : Int), .int .u8 (t2.toNat : Int), .int .u8 (t3.toNat : Int)] 39) = w1 at B0 K0 ⊢
  generalize hg5 : w.heap.size = g5 at K0 B0 ⊢
  have Hg5 := hid hg5; clear hg5
  refine (known_calls _).mono ?_
  rintro e w2 ⟨rfl, b2⟩
  have K2 := hid (K0.out.keep b2)
  have B2 := hid (B0.out.trans (b2.mono (Nat.le_of_lt K0.out.lt))); clear b2 B0 K0
  go_wp2_with fail
  refine (seal_calls B n c A bs _ (hs.keep (by rw [Hg5.out]; exact B2.out)) (by omega)).mono ?_
  rintro e w3 ⟨v3, rfl, o3, b3⟩
  have K3 := hid (K2.out.keep b3)
  have B3 := hid (B2.out.trans (b3.mono (Nat.le_of_lt K2.out.lt)))
  have L3 := hid (fun g e => Nat.lt_of_lt_of_le K2.out.lt (o3.block g e).1)
  clear b3 B2 K2
  obtain ⟨g3, c3, rfl, hc3, _, s3⟩ := o3.sb_some (by omega)
  have O3 := hid o3; clear o3
  go_wp2_with fail
  refine (opens_true _ (n + 4) c3 B n c (some ⟨g3, 0, none⟩) A (sealed bs) bs 0 _ (by rw [(open_sealed bs).1, (open_sealed bs).2]; simp) s3 (hs.keep (by rw [Hg5.out]; exact B3.out)) (by omega) hc3).mono ?_
  rintro e w4 ⟨rfl, b4⟩
  have K4 := hid (K3.out.keep b4)
  have B4 := hid (B3.out.trans (b4.mono (Nat.le_of_lt K3.out.lt)))
  have O4 := hid (O3.out.keep b4)
  clear b4 B3 K3 O3 s3
  have k4 := K4.out
  have hq := HQ.out
  cases hz : ([t0, t1, t2, t3] == [0, 0, 0, 0] : Bool)
  · rw [hz] at hq
    have HZ := hid hz; clear hz
    go_wp2_with (refine wpList_load_blk rfl 39 _ rfl g5 rfl 39 _ k4 _ _ Try.underlying39 info39 ?_)
    clear hq k4
    rw [show (n : Int) + 4 - 3 = (n : Int) + 1 by omega]
    refine (pick_calls x ((n : Int) + 1) _ (by omega) (by omega)).mono ?_
    rintro e w' ⟨rfl, rfl⟩
    obtain ⟨a, ha, han⟩ : ∃ a : Nat, x % ((n : Int) + 1) = (a : Int) ∧ a ≤ n := by
      have h1 := Int.emod_nonneg x (show (n : Int) + 1 ≠ 0 by omega)
      have h2 := Int.emod_lt_of_pos x (show (0 : Int) < (n : Int) + 1 by omega)
      exact ⟨(x % ((n : Int) + 1)).toNat, by omega, by omega⟩
    rw [ha]
    clear ha
    have hg53 : g5 < g3 := L3.out g3 rfl
    go_wp2_with fail
    go_loopw [9] (fun i wr => ∃ k : Nat, k ≤ 4 ∧ i = .int .i64 (k : Int) ∧ Below g5 w wr ∧ Blk wr g5 39 #[.int .u8 (t0.toNat : Int), .int .u8 (t1.toNat : Int), .int .u8 (t2.toNat : Int), .int .u8 (t3.toNat : Int)] ∧ Own wr w2.heap.size 5 (.slice (some ⟨g3, 0, none⟩) (n + 4) c3) (n + 4) (dmg (sealed bs) [t0, t1, t2, t3] a k)) (fun i _ => 4 - (intOf i).toNat)
    case atStart => exact ⟨0, by omega, rfl, B4.out, K4.out, O4.out⟩
    case round =>
      clear B4 K4 O4
      obtain ⟨k, hk, rfl, hb, hk5, ho⟩ := hrel
      have HB := hid hb; have HK := hid hk5; have HO := hid ho; clear hb hk5 ho
      by_cases hlt : k < 4
      · obtain ⟨u, hu⟩ : ∃ u : UInt8, [t0, t1, t2, t3][k]? = some u := ⟨_, List.getElem?_eq_getElem (by simpa using hlt)⟩
        obtain ⟨y, hy⟩ : ∃ y : UInt8, (dmg (sealed bs) [t0, t1, t2, t3] a k)[a + k]? = some y := ⟨_, List.getElem?_eq_getElem (by rw [HO.out.len]; omega)⟩
        have c1 : wr.cell? ⟨g3, a + k, none⟩ = some (.int .u8 (y.toNat : Int)) := by
          rw [World.ownsRow.cellAt HO.out (a + k) (by omega), List.getElem?_map, hy]; rfl
        have f1 := World.ownsRow.frozenAt HO.out (a + k)
        have c2 : wr.cell? ⟨g5, k, none⟩ = some (.int .u8 (u.toNat : Int)) := HK.out.cell k (by
          have : #[Value.int .u8 (t0.toNat : Int), .int .u8 (t1.toNat : Int), .int .u8 (t2.toNat : Int), .int .u8 (t3.toNat : Int)][k]? = ([t0, t1, t2, t3].map bv)[k]? := by
            simp [bv]
          rw [this, List.getElem?_map, hu]; rfl)
        have hst := hid (World.ownsRow.stored HO.out (a + k) (bv (bxor y u)))
        have Hu := hid hu; have Hy := hid hy; clear hu hy
        have i1 : IntKind.i64.wrap ((a : Int) + (k : Int)) = (a : Int) + (k : Int) := IntWalk.i64_in _ (by omega)
        have i2 : (0 : Int) ≤ (a : Int) + (k : Int) := by omega
        have i3 : (a : Int) + (k : Int) < (n : Int) + 4 := by omega
        have i4 : ((a : Int) + (k : Int)).toNat = a + k := by omega
        have i5 : (k : Int) < 4 := by omega
        have i6 : (0 : Int) ≤ (k : Int) := by omega
        go_wp2_with fail
        go_region
        clear i1 i2 i3 i4 i5 i6
        go_wp2_with fail
        go_roundw
        case rel =>
          refine ⟨k + 1, by omega, by go_num, (HB.out.setCell (p := ⟨g3, a + k, none⟩) (Nat.le_of_lt hg53) _).drew, (HK.out.far (by show ¬ g5 = g3; omega) _).drew, ?_⟩
          have h := hst.out.1
          rw [← List.map_set] at h
          have e : dmg (sealed bs) [t0, t1, t2, t3] a (k + 1) = (dmg (sealed bs) [t0, t1, t2, t3] a k).set (a + k) (bxor y u) := by
            rw [dmg, List.getD, Hy.out, List.getD, Hu.out]; rfl
          rw [e]
          exact h
        case measure => simp [intOf]; omega
      · obtain rfl : k = 4 := by omega
        obtain ⟨_, _, e3, _, so, _⟩ := HO.out.sb
        injection e3 with e3 _ e3'
        subst e3 e3'
        go_wp2_with fail
        refine (opens_true _ (n + 4) c3 _ 0 0 (some ⟨g3, 0, none⟩) none _ [] 5 _ (dmg_opens rfl (by rw [sealed_len, hs.1]; omega) HZ.out) so (SB.nil _ 0 _) (by omega) hc3).mono ?_
        rintro e w6 ⟨rfl, b6⟩
        have B6 := hid (HB.out.trans (b6.mono (Nat.le_of_lt HK.out.lt))); clear b6
        go_wp2_with fail
        go_ret
        exact ⟨rfl, by rw [Hg5.out]; exact B6.out⟩
  · rw [hz] at hq
    clear hz
    go_wp2_with (refine wpList_load_blk rfl 39 _ rfl g5 rfl 39 _ k4 _ _ Try.underlying39 info39 ?_)
    go_ret
    exact ⟨rfl, by rw [Hg5.out]; exact B4.out⟩

theorem damage_all (B n c : Nat) (A : Option Addr) (bs : List UInt8) (x : Int) (t0 t1 t2 t3 : UInt8) (w : World) (hs : SB w B A n bs) :
    Calls Try.prog 6 #[.slice A n c, .int .i64 x, .agg #[.int .u8 (t0.toNat : Int), .int .u8 (t1.toNat : Int), .int .u8 (t2.toNat : Int), .int .u8 (t3.toNat : Int)]] w
      fun e w' => e = .returned (.bool true) ∧ Below w.heap.size w w' := by
  rcases Nat.lt_or_ge 300 n with h | h
  · exact damage_long n c A x _ w h
  · exact damage_walk B n c A bs x t0 t1 t2 t3 w hs h
end Go.Proofs.Ytpnobkeeebigeaa
