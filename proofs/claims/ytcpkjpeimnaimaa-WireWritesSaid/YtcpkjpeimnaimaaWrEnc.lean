/- Contracts: encode, at a value of each kind. -/
import Derived.Test.YtcpkjpeimnaimaaWrRaw
import Derived.Test.YtcpkjpeimnaimaaWrId
namespace Go.Proofs.Ytcpkjpeimnaimaa
open Go.RowKit

theorem as_0_0 (v : Value) (w : World) : (Instr.typeAssert (.iface 3 v) 20 3 true).run Try.prog w = .ok (.tuple #[v, .bool true]) w := by kernel_rfl
theorem as_1_0 (v : Value) (w : World) : (Instr.typeAssert (.iface 9 v) 20 3 true).run Try.prog w = .ok (.tuple #[.int .i64 0, .bool false]) w := by kernel_rfl
theorem as_1_1 (v : Value) (w : World) : (Instr.typeAssert (.iface 9 v) 20 9 true).run Try.prog w = .ok (.tuple #[v, .bool true]) w := by kernel_rfl
theorem as_2_0 (v : Value) (w : World) : (Instr.typeAssert (.iface 31 v) 20 3 true).run Try.prog w = .ok (.tuple #[.int .i64 0, .bool false]) w := by kernel_rfl
theorem as_2_1 (v : Value) (w : World) : (Instr.typeAssert (.iface 31 v) 20 9 true).run Try.prog w = .ok (.tuple #[.string ⟨#[]⟩, .bool false]) w := by kernel_rfl
theorem as_2_2 (v : Value) (w : World) : (Instr.typeAssert (.iface 31 v) 20 31 true).run Try.prog w = .ok (.tuple #[v, .bool true]) w := by kernel_rfl
theorem as_3_0 (v : Value) (w : World) : (Instr.typeAssert (.iface 33 v) 20 3 true).run Try.prog w = .ok (.tuple #[.int .i64 0, .bool false]) w := by kernel_rfl
theorem as_3_1 (v : Value) (w : World) : (Instr.typeAssert (.iface 33 v) 20 9 true).run Try.prog w = .ok (.tuple #[.string ⟨#[]⟩, .bool false]) w := by kernel_rfl
theorem as_3_2 (v : Value) (w : World) : (Instr.typeAssert (.iface 33 v) 20 31 true).run Try.prog w = .ok (.tuple #[.slice none 0 0, .bool false]) w := by kernel_rfl
theorem as_3_3 (v : Value) (w : World) : (Instr.typeAssert (.iface 33 v) 20 33 true).run Try.prog w = .ok (.tuple #[v, .bool true]) w := by kernel_rfl
theorem as_4_0 (v : Value) (w : World) : (Instr.typeAssert (.iface 35 v) 20 3 true).run Try.prog w = .ok (.tuple #[.int .i64 0, .bool false]) w := by kernel_rfl
theorem as_4_1 (v : Value) (w : World) : (Instr.typeAssert (.iface 35 v) 20 9 true).run Try.prog w = .ok (.tuple #[.string ⟨#[]⟩, .bool false]) w := by kernel_rfl
theorem as_4_2 (v : Value) (w : World) : (Instr.typeAssert (.iface 35 v) 20 31 true).run Try.prog w = .ok (.tuple #[.slice none 0 0, .bool false]) w := by kernel_rfl
theorem as_4_3 (v : Value) (w : World) : (Instr.typeAssert (.iface 35 v) 20 33 true).run Try.prog w = .ok (.tuple #[.agg (bcells (zeroB 32)), .bool false]) w := by kernel_rfl
theorem as_4_4 (v : Value) (w : World) : (Instr.typeAssert (.iface 35 v) 20 35 true).run Try.prog w = .ok (.tuple #[v, .bool true]) w := by kernel_rfl
theorem as_5_0 (v : Value) (w : World) : (Instr.typeAssert (.iface 36 v) 20 3 true).run Try.prog w = .ok (.tuple #[.int .i64 0, .bool false]) w := by kernel_rfl
theorem as_5_1 (v : Value) (w : World) : (Instr.typeAssert (.iface 36 v) 20 9 true).run Try.prog w = .ok (.tuple #[.string ⟨#[]⟩, .bool false]) w := by kernel_rfl
theorem as_5_2 (v : Value) (w : World) : (Instr.typeAssert (.iface 36 v) 20 31 true).run Try.prog w = .ok (.tuple #[.slice none 0 0, .bool false]) w := by kernel_rfl
theorem as_5_3 (v : Value) (w : World) : (Instr.typeAssert (.iface 36 v) 20 33 true).run Try.prog w = .ok (.tuple #[.agg (bcells (zeroB 32)), .bool false]) w := by kernel_rfl
theorem as_5_4 (v : Value) (w : World) : (Instr.typeAssert (.iface 36 v) 20 35 true).run Try.prog w = .ok (.tuple #[.agg #[.int .i64 0, .int .i64 0], .bool false]) w := by kernel_rfl
theorem as_5_5 (v : Value) (w : World) : (Instr.typeAssert (.iface 36 v) 20 36 true).run Try.prog w = .ok (.tuple #[v, .bool true]) w := by kernel_rfl
theorem as_6_0 (v : Value) (w : World) : (Instr.typeAssert (.iface 4 v) 20 3 true).run Try.prog w = .ok (.tuple #[.int .i64 0, .bool false]) w := by kernel_rfl
theorem as_6_1 (v : Value) (w : World) : (Instr.typeAssert (.iface 4 v) 20 9 true).run Try.prog w = .ok (.tuple #[.string ⟨#[]⟩, .bool false]) w := by kernel_rfl
theorem as_6_2 (v : Value) (w : World) : (Instr.typeAssert (.iface 4 v) 20 31 true).run Try.prog w = .ok (.tuple #[.slice none 0 0, .bool false]) w := by kernel_rfl
theorem as_6_3 (v : Value) (w : World) : (Instr.typeAssert (.iface 4 v) 20 33 true).run Try.prog w = .ok (.tuple #[.agg (bcells (zeroB 32)), .bool false]) w := by kernel_rfl
theorem as_6_4 (v : Value) (w : World) : (Instr.typeAssert (.iface 4 v) 20 35 true).run Try.prog w = .ok (.tuple #[.agg #[.int .i64 0, .int .i64 0], .bool false]) w := by kernel_rfl
theorem as_6_5 (v : Value) (w : World) : (Instr.typeAssert (.iface 4 v) 20 36 true).run Try.prog w = .ok (.tuple #[.slice none 0 0, .bool false]) w := by kernel_rfl
theorem as_6_6 (v : Value) (w : World) : (Instr.typeAssert (.iface 4 v) 20 4 true).run Try.prog w = .ok (.tuple #[v, .bool true]) w := by kernel_rfl
attribute [local go_sem] as_0_0 as_1_0 as_1_1 as_2_0 as_2_1 as_2_2 as_3_0 as_3_1 as_3_2 as_3_3 as_4_0 as_4_1 as_4_2 as_4_3 as_4_4 as_5_0 as_5_1 as_5_2 as_5_3 as_5_4 as_5_5 as_6_0 as_6_1 as_6_2 as_6_3 as_6_4 as_6_5 as_6_6
set_option maxRecDepth 20000 in
theorem encInt_calls (base d : Nat) (r : Option Nat) (lim : Nat) (s : DS) (n : Int) (hn : n < 9223372036854775808) (w : World) (h : DrB w base d r lim s) :
    Calls Try.prog 71 #[.pointer (some ⟨d, 0, none⟩), .iface 3 (.int .i64 n)] w (DrPost w base d r lim (numM lim s n)) := by
  have HN := hid (num_calls base d r lim s n hn w h)
  generalize numM lim s n = s' at HN ⊢
  clear h
  go_enter Try.func71, Try.ntmps71
  go_wp2_with fail
  refine HN.out.mono ?_
  rintro _ w1 ⟨rfl, h1⟩
  have HK := hid (show DrPost w base d r lim s' (.returned (.tuple #[])) w1 from ⟨rfl, h1⟩)
  clear h1
  go_wp2_with fail
  go_end0
  exact HK.out
set_option maxRecDepth 20000 in
theorem encBool_calls (base d : Nat) (r : Option Nat) (lim : Nat) (s : DS) (b : Bool) (w : World) (h : DrB w base d r lim s) :
    Calls Try.prog 71 #[.pointer (some ⟨d, 0, none⟩), .iface 4 (.bool b)] w (DrPost w base d r lim (numM lim s (if b then 1 else 0))) := by
  have HN := hid (truth_calls base d r lim s b w h)
  generalize numM lim s (if b then 1 else 0) = s' at HN ⊢
  clear h
  go_enter Try.func71, Try.ntmps71
  go_wp2_with fail
  refine HN.out.mono ?_
  rintro _ w1 ⟨rfl, h1⟩
  have HK := hid (show DrPost w base d r lim s' (.returned (.tuple #[])) w1 from ⟨rfl, h1⟩)
  clear h1
  go_wp2_with fail
  go_end0
  exact HK.out
/-- two operations, one behind the other -/
theorem DrPost.then {w w1 w2 : World} {base d : Nat} {r r1 : Option Nat} {lim : Nat} {s2 : DS} {e : Ending} (k1 : Chg (fp d r) w w1) (m1 : Moved w.heap.size r r1) (h2 : DrPost w1 base d r1 lim s2 e w2) : DrPost w base d r lim s2 e w2 := by
  obtain ⟨he, r2, h3, k2, m2⟩ := h2
  exact ⟨he, r2, h3, k1.trans k2 (fp_moved m1), m1.trans m2 k1.size⟩
set_option maxRecDepth 20000 in
theorem encText_calls (base d : Nat) (r : Option Nat) (lim : Nat) (s : DS) (cs : List UInt8) (hn : cs.length ≤ 549755813888) (w : World) (h : DrB w base d r lim s) :
    Calls Try.prog 71 #[.pointer (some ⟨d, 0, none⟩), .iface 9 (.string (strB cs))] w (DrPost w base d r lim (putM lim (numM lim s cs.length) cs)) := by
  have HN := hid (num_calls base d r lim s cs.length (by omega) w h)
  have HP := hid (fun r1 w1 => rawText_calls base d r1 lim (numM lim s cs.length) cs hn w1)
  generalize numM lim s cs.length = s1 at HN HP ⊢
  generalize putM lim s1 cs = s2 at HP ⊢
  have hsz := strB_size cs
  generalize strB cs = st at hsz HP ⊢
  clear h
  go_enter Try.func71, Try.ntmps71
  go_wp2_with fail
  refine HN.out.mono ?_
  rintro _ w1 ⟨rfl, r1, h1, k1, m1⟩
  have H1 := hid h1; have HT := hid (fun s2 e w2 => DrPost.then (base := base) (lim := lim) (s2 := s2) (e := e) (w2 := w2) k1 m1)
  clear h1 k1 m1
  go_wp2_with fail
  refine (HP.out r1 w1 H1.out).mono ?_
  rintro e w2 hp
  have HK := hid (HT.out _ _ _ hp)
  obtain ⟨he, -⟩ := hp
  subst he
  go_wp2_with fail
  go_end0
  exact HK.out
set_option maxRecDepth 20000 in
theorem encBytes_calls (base d : Nat) (r : Option Nat) (lim : Nat) (s : DS) (B n c : Nat) (A : Option Addr) (cs : List UInt8) (hn : n ≤ 549755813888) (w : World) (h : DrB w base d r lim s) (hs : SB w B A n cs) (hne : ∀ b off, A = some ⟨b, off, none⟩ → b < B → b ∉ fp d r) :
    Calls Try.prog 71 #[.pointer (some ⟨d, 0, none⟩), .iface 31 (.slice A n c)] w (DrPost w base d r lim (putM lim (numM lim s n) cs)) := by
  have HN := hid (num_calls base d r lim s n (by omega) w h)
  have HP := hid (fun r1 w1 => rawBytes_calls base d r1 lim (numM lim s n) B n c A cs hn w1)
  generalize numM lim s n = s1 at HN HP ⊢
  generalize putM lim s1 cs = s2 at HP ⊢
  have HS := hid (fun w1 (k1 : Chg (fp d r) w w1) => hs.chg k1 hne)
  have HNE := hid hne
  clear h hs hne
  go_enter Try.func71, Try.ntmps71
  go_wp2_with fail
  refine HN.out.mono ?_
  rintro _ w1 ⟨rfl, r1, h1, k1, m1⟩
  have H1 := hid h1; have HT := hid (fun s2 e w2 => DrPost.then (base := base) (lim := lim) (s2 := s2) (e := e) (w2 := w2) k1 m1)
  have HS1 := hid (HS.out w1 k1)
  clear h1 k1 m1
  go_wp2_with fail
  refine (HP.out r1 w1 H1.out HS1.out (fun b off e hlt hd => HNE.out b off e hlt (hd ▸ fp_head d r))).mono ?_
  rintro e w2 hp
  have HK := hid (HT.out _ _ _ hp)
  obtain ⟨he, -⟩ := hp
  subst he
  go_wp2_with fail
  go_end0
  exact HK.out
/-- a block that a call made, and what it then does -/
theorem DrPost.fresh {w w1 w2 : World} {base d : Nat} {r : Option Nat} {lim : Nat} {s2 : DS} {e : Ending} (k1 : Below w.heap.size w w1) (h2 : DrPost w1 base d r lim s2 e w2) : DrPost w base d r lim s2 e w2 :=
  DrPost.then (Chg.of_below k1) (Moved.refl _ _) h2
theorem DrB.keep {w w' : World} {base d : Nat} {r : Option Nat} {lim : Nat} {s : DS} (h : DrB w base d r lim s) (hb : Below w.heap.size w w') : DrB w' base d r lim s := by
  obtain ⟨v, h1, h2, h3⟩ := h
  exact ⟨v, h1.keep hb, h2.keep hb, h3⟩
set_option maxRecDepth 20000 in
theorem encID_calls (base d : Nat) (r : Option Nat) (lim : Nat) (s : DS) (l : List UInt8) (hl : l.length = 32) (w : World) (h : DrB w base d r lim s) :
    Calls Try.prog 71 #[.pointer (some ⟨d, 0, none⟩), .iface 33 (.agg (bcells l))] w (DrPost w base d r lim (putM lim s l)) := by
  have HH := hid h
  generalize hq : putM lim s l = s'
  have HQ := hid hq
  clear h hq
  have hz := (zero_of_info info26).1
  have K := hid (Blk.new w 33 (bcells (zeroB 32)))
  have ES : Hid ((Try.prog.info? 33).map (·.size) = some (bcells l).size) := size_id hl
  have Hs : Hid ((bcells (zeroB 32)).size = (bcells l).size) := by rw [Hid, bcells_size, bcells_size, hl]; rfl
  have HL := hid hl
  clear hl
  go_enter Try.func71, Try.ntmps71
  go_wp2_with ((refine wpList_store_blk rfl 33 _ _ rfl w.heap.size _ rfl rfl 33 _ K.out ES.out Hs.out (bcells_oneCell _) ?_); refine Held.go ?_)
  obtain ⟨b1, k1⟩ := new_set w 33 (bcells (zeroB 32)) (bcells l)
  generalize (w.alloc (.cells (bcells (zeroB 32)) 33)).setRow w.heap.size (bcells l) = w1 at b1 k1 ⊢
  have HS := hid (show SB w1 w1.heap.size (some ⟨w.heap.size, 0, none⟩) 32 l from ⟨HL.out, fun _ => ⟨_, 0, rfl, k1.lt, fun j x hj => by rw [Nat.zero_add]; exact k1.cell j (by simp [bcells, hj])⟩⟩)
  have HP := hid (rawBytes_calls base d r lim s w1.heap.size 32 32 (some ⟨w.heap.size, 0, none⟩) l (by omega) w1 (HH.out.keep b1) HS.out (fun b off e _ hd => by cases e; have := HH.out.lt; omega))
  have B1 := hid b1
  clear b1 k1 hz K
  rw [HQ.out] at HP
  unfold Held
  go_wp2_with fail
  refine HP.out.mono ?_
  rintro e w2 hp
  have HK := hid (DrPost.fresh B1.out hp)
  obtain ⟨he, -⟩ := hp
  subst he
  go_wp2_with fail
  go_end0
  exact HK.out
theorem DrB.fp_lt {w : World} {base d : Nat} {r : Option Nat} {lim : Nat} {s : DS} (h : DrB w base d r lim s) : ∀ b ∈ fp d r, b < w.heap.size := by
  have h0 := h.lt
  obtain ⟨v, _, ho, hr, _⟩ := h
  intro b hb
  rw [mem_fp] at hb
  rcases hb with rfl | hb
  · exact h0
  · rw [← hr] at hb; exact (ho.block b hb).2
set_option maxRecDepth 20000 in
theorem encDot_calls (base d : Nat) (r : Option Nat) (lim : Nat) (s : DS) (x y : Int) (hx : x < 9223372036854775808) (hy : y < 9223372036854775808) (w : World) (h : DrB w base d r lim s) :
    Calls Try.prog 71 #[.pointer (some ⟨d, 0, none⟩), .iface 35 (.agg #[.int .i64 x, .int .i64 y])] w (DrPost w base d r lim (numM lim (numM lim s x) y)) := by
  have b1 := below_new w (.cells #[.int .i64 x, .int .i64 y] 35)
  have k1 := Blk.new w 35 #[.int .i64 x, .int .i64 y]
  have hlt := h.lt
  have HN := hid (fun w1 => num_calls base d r lim s x hx w1)
  have HP := hid (fun r1 w1 => num_calls base d r1 lim (numM lim s x) y hy w1)
  have HH := hid h
  generalize numM lim s x = s1 at HN HP ⊢
  generalize numM lim s1 y = s2 at HP ⊢
  clear h
  go_enter Try.func71, Try.ntmps71
  go_wp2_with fail
  generalize w.alloc (.cells #[.int .i64 x, .int .i64 y] 35) = w1 at b1 k1 ⊢
  have B1 := hid b1
  have K1 := hid k1
  have c0 := k1.cell 0 rfl
  clear b1 k1
  refine (HN.out w1 (HH.out.keep B1.out)).mono ?_
  rintro _ w2 ⟨rfl, r2, h2, k2, m2⟩
  have K2 := hid (K1.out.chg k2 (fun hm => by have := HH.out.fp_lt _ hm; omega))
  have c1 := K2.out.cell 1 rfl
  have H2 := hid h2; have HT := hid (fun s2 e w3 => DrPost.then (base := base) (lim := lim) (s2 := s2) (e := e) (w2 := w3) k2 m2)
  clear h2 k2 m2 c0
  go_wp2_with fail
  refine (HP.out r2 w2 H2.out).mono ?_
  rintro e w3 hp
  have HK := hid (DrPost.fresh B1.out (HT.out _ _ _ hp))
  obtain ⟨he, -⟩ := hp
  subst he
  go_wp2_with fail
  go_end0
  exact HK.out
/-- numbers, one behind the other -/
def vecM (lim : Nat) (s : DS) (zs : List Int) : DS := zs.foldl (numM lim) s
set_option maxRecDepth 20000 in
theorem encVec_calls (base d : Nat) (r : Option Nat) (lim : Nat) (s : DS) (n c : Nat) (A : Option Addr) (zs : List Int) (hn : n < 9223372036854775808) (hc : n ≤ c) (hz : ∀ z ∈ zs, z < 9223372036854775808) (w : World) (h : DrB w base d r lim s) (hs : SI w A n zs) (hne : 0 < n → ∀ b off, A = some ⟨b, off, none⟩ → b ∉ fp d r) :
    Calls Try.prog 71 #[.pointer (some ⟨d, 0, none⟩), .iface 36 (.slice A n c)] w (DrPost w base d r lim (vecM lim (numM lim s n) zs)) := by
  have HN := hid (num_calls base d r lim s n (by omega) w h)
  generalize hq : vecM lim (numM lim s n) zs = s'
  have HQ := hid hq
  generalize numM lim s n = s1 at HN HQ
  have HS := hid hs; have HZ := hid hz; have HNE := hid hne
  have HZL := hid hs.1
  clear h hs hz hne hq
  go_enter Try.func71, Try.ntmps71
  go_wp2_with fail
  refine HN.out.mono ?_
  rintro _ w1 ⟨rfl, r1, h1, k1, m1⟩
  have H1 := hid h1; have K1 := hid k1; have M1 := hid m1
  clear h1 k1 m1
  go_wp2_with fail
  go_loopw [11, 66] (fun _ i wr => ∃ (k : Nat) (rr : Option Nat), k ≤ n ∧ i = .int .i64 (k : Int) ∧ Hid (DrB wr base d rr lim (vecM lim s1 (zs.take k))) ∧ Hid (Chg (fp d r) w wr) ∧ Hid (Moved w.heap.size r rr)) (fun _ i _ => n - (intOf i).toNat)
  case atStart => exact ⟨0, r1, by omega, rfl, by rw [List.take_zero]; exact H1, K1, M1⟩
  case round =>
    clear H1 K1 M1
    obtain ⟨k, rr, hk, rfl, H1, K1, M1⟩ := hrel
    by_cases hlt : k < n
    · have q0 : (k : Int) < (n : Int) := by omega
      obtain ⟨b, off, z, rfl, hzk, hcell⟩ := (HS.out.chg K1.out HNE.out).at_ hlt
      have hz := HZ.out z (List.mem_of_getElem? hzk)
      have HE := hid (show vecM lim s1 (zs.take (k + 1)) = numM lim (vecM lim s1 (zs.take k)) z from take_next _ _ _ _ _ hzk)
      clear hzk
      go_wp2_with fail
      refine (num_calls base d rr lim _ z hz wr H1.out).mono ?_
      rintro _ w2 ⟨rfl, r2, h2, k2, m2⟩
      rw [← HE.out] at h2
      have H2 := hid h2
      have K2 := hid (K1.out.trans k2 (fp_moved M1.out))
      have M2 := hid (M1.out.trans m2 K1.out.size)
      clear h2 k2 m2 H1 K1 M1 hcell
      go_wp2_with fail
      go_roundw
      case rel => exact ⟨k + 1, r2, by omega, by go_num, H2, K2, M2⟩
      case measure => simp [intOf]; omega
    · obtain rfl : k = n := by omega
      have q0 : ¬ (k : Int) < (k : Int) := by omega
      rw [List.take_of_length_le (by rw [HZL.out]; omega), HQ.out] at H1
      go_wp2_with fail
      go_end0
      exact ⟨rfl, rr, H1.out, K1.out, M1.out⟩
end Go.Proofs.Ytcpkjpeimnaimaa
