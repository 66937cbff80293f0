/- Contracts: a writer's calls. -/
import Derived.Test.YtcpkjpeimnaimaaWrWriter
namespace Go.Proofs.Ytcpkjpeimnaimaa
open Go.RowKit

theorem newWriter_bad (lim : Int) (w : World) (h : lim < 0 ∨ 67108864 < lim) :
    Calls Try.prog 9 #[.int .i64 lim] w fun e w' => e = .returned (.tuple #[.pointer none, .int .i64 3]) ∧ w = w' := by
  rcases h with h | h
  · go_enter Try.func9, Try.ntmps9
    go_wp2_with fail
    go_ret2
    exact ⟨rfl, rfl⟩
  · have h0 : ¬ lim < 0 := by omega
    go_enter Try.func9, Try.ntmps9
    go_wp2_with fail
    go_ret2
    exact ⟨rfl, rfl⟩
theorem newWriter_calls (lim : Nat) (w : World) (h : lim ≤ 67108864) :
    Calls Try.prog 9 #[.int .i64 (lim : Int)] w fun e w' => ∃ g f, e = .returned (.tuple #[.pointer (some ⟨g, 0, none⟩), .int .i64 0]) ∧ (∀ base, base ≤ w.heap.size → WrB w' base g f none lim ⟨[], 0⟩) ∧ w.heap.size ≤ g ∧ w.heap.size ≤ f ∧ Below w.heap.size w w' := by
  have h0 : ¬ (lim : Int) < 0 := by omega
  have h1 : ¬ (67108864 : Int) < (lim : Int) := by omega
  go_enter Try.func9, Try.ntmps9
  go_wp2_with fail
  have b1 := below_new w (.cells #[.int .i64 0, .int .i64 0] 87)
  have k1 := Blk.new w 87 #[.int .i64 0, .int .i64 0]
  have hs1 := size_new w (.cells #[.int .i64 0, .int .i64 0] 87)
  generalize w.alloc (.cells #[.int .i64 0, .int .i64 0] 87) = w1 at b1 k1 hs1 ⊢
  rw [← hs1]
  have b2 := below_new w1 (.cells #[.pointer (some ⟨w1.heap.size, 0, none⟩), .pointer (some ⟨w.heap.size, 0, none⟩), .slice none 0 0, .int .i64 (lim : Int)] 74)
  have k2 := Blk.new w1 74 #[.pointer (some ⟨w1.heap.size, 0, none⟩), .pointer (some ⟨w.heap.size, 0, none⟩), .slice none 0 0, .int .i64 (lim : Int)]
  generalize w1.alloc (.cells #[.pointer (some ⟨w1.heap.size, 0, none⟩), .pointer (some ⟨w.heap.size, 0, none⟩), .slice none 0 0, .int .i64 (lim : Int)] 74) = w2 at b2 k2 ⊢
  go_ret2
  refine ⟨w1.heap.size, rfl, w.heap.size, fun base hb => ⟨none, 0, k2, k1.keep b2, fun _ => Own.nil _ _ _, rfl, (fun b e => by cases e), by omega, by omega, hb, by simp, h⟩, by omega, Nat.le_refl _, b1.trans (b2.mono b1.size)⟩

theorem item2 (lim : Nat) (s : DS) (n : Int) (cs : List UInt8) : putM lim (numM lim s n) cs = [numI n, some cs].foldl (itemM lim) s := by rw [numM_item]; rfl
theorem item1 (lim : Nat) (s : DS) (n : Int) : numM lim s n = [numI n].foldl (itemM lim) s := by rw [numM_item]; rfl
theorem itemD (lim : Nat) (s : DS) (x y : Int) : numM lim (numM lim s x) y = [numI x, numI y].foldl (itemM lim) s := by rw [numM_item, numM_item]; rfl
theorem itemV (lim : Nat) (s : DS) (n : Int) (zs : List Int) : vecM lim (numM lim s n) zs = (numI n :: zs.map numI).foldl (itemM lim) s := by rw [numM_item, vecM_items]; rfl
/-- the end of a call that wrote -/
theorem WrPost.ret {w w' : World} {base g f : Nat} {r : Option Nat} {lim : Nat} {s' : WS} {e : Ending} (h : WrPost w base g f r lim s' e w') : e = .returned (.int .i64 (s'.e : Int)) := h.1
theorem WrPost.fresh {w w1 w2 : World} {base g f : Nat} {r : Option Nat} {lim : Nat} {s' : WS} {e : Ending} (k1 : Below w.heap.size w w1) (h : WrPost w1 base g f r lim s' e w2) : WrPost w base g f r lim s' e w2 := by
  obtain ⟨he, r', h1, h2, h3⟩ := h
  exact ⟨he, r', h1, (Chg.of_below k1).trans h2 (fun b hb => .inl hb), (Moved.refl _ _).trans h3 k1.size⟩
section
variable (base g f : Nat) (r : Option Nat) (lim : Nat) (s : WS) (w : World)
theorem wNum_calls (n : Int) (hn : n < 9223372036854775808) (h : WrB w base g f r lim s) :
    Calls Try.prog 12 #[.pointer (some ⟨g, 0, none⟩), .int .i64 n] w (WrPost w base g f r lim (putW lim s [numI n])) := by
  have HW := hid (write_calls base g f r lim s (.iface 3 (.int .i64 n)) [numI n] w h (fun _ w1 _ hd => by rw [← item1]; exact encInt_calls base _ r lim _ n hn w1 hd))
  generalize putW lim s [numI n] = s' at HW ⊢
  clear h
  go_enter Try.func12, Try.ntmps12
  go_wp2_with fail
  refine HW.out.mono ?_
  intro e w' hp
  have HK := hid hp
  obtain rfl := hp.ret
  clear hp
  go_wp2_with fail
  go_ret
  exact HK.out
theorem wBool_calls (b : Bool) (h : WrB w base g f r lim s) :
    Calls Try.prog 27 #[.pointer (some ⟨g, 0, none⟩), .bool b] w (WrPost w base g f r lim (putW lim s [numI (if b then 1 else 0)])) := by
  have HW := hid (write_calls base g f r lim s (.iface 4 (.bool b)) [numI (if b then 1 else 0)] w h (fun _ w1 _ hd => by rw [← item1]; exact encBool_calls base _ r lim _ b w1 hd))
  generalize putW lim s [numI (if b then 1 else 0)] = s' at HW ⊢
  clear h
  go_enter Try.func27, Try.ntmps27
  go_wp2_with fail
  refine HW.out.mono ?_
  intro e w' hp
  have HK := hid hp
  obtain rfl := hp.ret
  clear hp
  go_wp2_with fail
  go_ret
  exact HK.out
theorem wText_calls (cs : List UInt8) (hn : cs.length ≤ 549755813888) (h : WrB w base g f r lim s) :
    Calls Try.prog 14 #[.pointer (some ⟨g, 0, none⟩), .string (strB cs)] w (WrPost w base g f r lim (putW lim s [numI cs.length, some cs])) := by
  have HW := hid (write_calls base g f r lim s (.iface 9 (.string (strB cs))) [numI cs.length, some cs] w h (fun _ w1 _ hd => by rw [← item2]; exact encText_calls base _ r lim _ cs hn w1 hd))
  generalize putW lim s [numI cs.length, some cs] = s' at HW ⊢
  generalize strB cs = st at HW ⊢
  clear h
  go_enter Try.func14, Try.ntmps14
  go_wp2_with fail
  refine HW.out.mono ?_
  intro e w' hp
  have HK := hid hp
  obtain rfl := hp.ret
  clear hp
  go_wp2_with fail
  go_ret
  exact HK.out
theorem wBytes_calls (B n c : Nat) (A : Option Addr) (cs : List UInt8) (hn : n ≤ 549755813888) (h : WrB w base g f r lim s) (hs : SB w B A n cs) (hB : B ≤ w.heap.size) (hne : ∀ b off, A = some ⟨b, off, none⟩ → b < B → r ≠ some b) :
    Calls Try.prog 17 #[.pointer (some ⟨g, 0, none⟩), .slice A n c] w (WrPost w base g f r lim (putW lim s [numI n, some cs])) := by
  have HW := hid (write_calls base g f r lim s (.iface 31 (.slice A n c)) [numI n, some cs] w h (fun _ w1 k1 hd => by
    rw [← item2]
    refine encBytes_calls base _ r lim _ B n c A cs hn w1 hd (hs.keep k1) (fun b off e hlt hm => ?_)
    rw [mem_fp] at hm
    rcases hm with rfl | hm
    · omega
    · exact hne b off e hlt hm))
  generalize putW lim s [numI n, some cs] = s' at HW ⊢
  clear h hs hne
  go_enter Try.func17, Try.ntmps17
  go_wp2_with fail
  refine HW.out.mono ?_
  intro e w' hp
  have HK := hid hp
  obtain rfl := hp.ret
  clear hp
  go_wp2_with fail
  go_ret
  exact HK.out
theorem wVec_calls (n c : Nat) (A : Option Addr) (zs : List Int) (hn : n < 9223372036854775808) (hc : n ≤ c) (hz : ∀ z ∈ zs, z < 9223372036854775808) (h : WrB w base g f r lim s) (hs : SI w A n zs) (hne : 0 < n → ∀ b off, A = some ⟨b, off, none⟩ → r ≠ some b) :
    Calls Try.prog 25 #[.pointer (some ⟨g, 0, none⟩), .slice A n c] w (WrPost w base g f r lim (putW lim s (numI n :: zs.map numI))) := by
  have HW := hid (write_calls base g f r lim s (.iface 36 (.slice A n c)) (numI n :: zs.map numI) w h (fun _ w1 k1 hd => by
    rw [← itemV]
    refine encVec_calls base _ r lim _ n c A zs hn hc hz w1 hd (hs.keep k1) (fun h0 b off e hm => ?_)
    have hlt := hs.lt h0 b off e
    rw [mem_fp] at hm
    rcases hm with rfl | hm
    · omega
    · exact hne h0 b off e hm))
  generalize putW lim s (numI n :: zs.map numI) = s' at HW ⊢
  clear h hs hne
  go_enter Try.func25, Try.ntmps25
  go_wp2_with fail
  refine HW.out.mono ?_
  intro e w' hp
  have HK := hid hp
  obtain rfl := hp.ret
  clear hp
  go_wp2_with fail
  go_ret
  exact HK.out
theorem wDot_calls (x y : Int) (hx : x < 9223372036854775808) (hy : y < 9223372036854775808) (h : WrB w base g f r lim s) :
    Calls Try.prog 23 #[.pointer (some ⟨g, 0, none⟩), .agg #[.int .i64 x, .int .i64 y]] w (WrPost w base g f r lim (putW lim s [numI x, numI y])) := by
  have b1 := below_new w (.cells #[.int .i64 x, .int .i64 y] 35)
  have k1 := Blk.new w 35 #[.int .i64 x, .int .i64 y]
  have HH := hid h
  have HW := hid (fun w1 h1 => write_calls base g f r lim s (.iface 35 (.agg #[.int .i64 x, .int .i64 y])) [numI x, numI y] w1 h1 (fun _ w2 _ hd => by rw [← itemD]; exact encDot_calls base _ r lim _ x y hx hy w2 hd))
  generalize putW lim s [numI x, numI y] = s' at HW ⊢
  clear h
  go_enter Try.func23, Try.ntmps23
  go_wp2_with fail
  generalize w.alloc (.cells #[.int .i64 x, .int .i64 y] 35) = w1 at b1 k1 ⊢
  have B1 := hid b1
  refine (HW.out w1 (HH.out.keep b1)).mono ?_
  intro e w' hp
  have HK := hid (WrPost.fresh B1.out hp)
  obtain rfl := hp.ret
  clear hp b1 k1
  go_wp2_with fail
  go_ret
  exact HK.out
set_option maxHeartbeats 1000000 in
theorem wID_calls (l : List UInt8) (hl : l.length = 32) (h : WrB w base g f r lim s) :
    Calls Try.prog 21 #[.pointer (some ⟨g, 0, none⟩), .agg (bcells l)] w (WrPost w base g f r lim (putW lim s [some l])) := by
  have b1 := below_new w (.cells (bcells l) 33)
  have K1 := hid (Blk.new w 33 (bcells l))
  have ES : Hid ((Try.prog.info? 33).map (·.size) = some (bcells l).size) := size_id hl
  have HH := hid h
  have HW := hid (fun w1 h1 => write_calls base g f r lim s (.iface 33 (.agg (bcells l))) [some l] w1 h1 (fun _ w2 _ hd => encID_calls base _ r lim _ l hl w2 hd))
  generalize putW lim s [some l] = s' at HW ⊢
  clear h hl
  have B1 := hid b1
  clear b1
  go_enter Try.func21, Try.ntmps21
  go_wp2_with (refine wpList_load_blk rfl 33 _ rfl w.heap.size rfl 33 _ K1.out _ _ Try.underlying33 ES.out ?_)
  refine (HW.out _ (HH.out.keep B1.out)).mono ?_
  intro e w' hp
  have HK := hid (WrPost.fresh B1.out hp)
  obtain rfl := hp.ret
  clear hp
  go_wp2_with fail
  go_ret
  exact HK.out
theorem wLen_calls (h : WrB w base g f r lim s) :
    Calls Try.prog 32 #[.pointer (some ⟨g, 0, none⟩)] w fun e w' => e = .returned (.int .i64 (s.bs.length : Int)) ∧ w = w' := by
  have HV := hid (wvalid_calls base g f r lim s w h)
  obtain ⟨A, c, h1, -⟩ := h
  have c2 := h1.cell 2 rfl
  clear h1
  go_enter Try.func32, Try.ntmps32
  go_wp2_with fail
  refine HV.out.mono ?_
  rintro _ _ ⟨rfl, rfl⟩
  go_wp2_with fail
  go_ret
  exact ⟨rfl, rfl⟩
end
theorem eql_nil {P : Program} (w : World) (t e : TypeId) (a : Option Addr) (n c : Nat) (h : P.underlying t = some (.slice e)) :
    (binOp .eql t (.slice a n c) (.slice none 0 0)).run P w = .ok (.bool a.isNone) w := by
  have hq : ∀ d : Nat, (Op.equalIn (d + 1) t (.slice a n c) (.slice none 0 0)).run P w = .ok a.isNone w := fun d => by
    cases a <;> simp [Op.equalIn, run_underlying h]
  simp only [binOp]
  simp [Op.equal, Op.maxDepth, hq 9999]
set_option maxRecDepth 20000 in
theorem clone_calls (B n c : Nat) (A : Option Addr) (bs : List UInt8) (w : World) (hs : SB w B A n bs) (hn : n ≤ 1099511627776) :
    Calls Try.prog 64 #[.slice A n c] w fun e w' => ∃ v, e = .returned v ∧ Own w' w.heap.size 5 v n bs ∧ Below w.heap.size w w' := by
  cases A with
  | none =>
    have hn0 : n = 0 := by
      rcases Nat.eq_zero_or_pos n with h | h
      · exact h
      · obtain ⟨_, _, e, _⟩ := hs.2 h; cases e
    subst hn0
    obtain rfl : bs = [] := List.eq_nil_of_length_eq_zero hs.1
    clear hs
    have hq := fun w => eql_nil (P := Try.prog) w 31 5 none 0 c Try.underlying31
    go_enter Try.func64, Try.ntmps64
    go_wp2_with fail
    go_ret
    exact ⟨_, rfl, Own.nil _ _ _, Below.refl _ _⟩
  | some a =>
    have HS := hid hs
    clear hs
    have hq := fun w => eql_nil (P := Try.prog) w 31 5 (some a) n c Try.underlying31
    go_enter Try.func64, Try.ntmps64
    go_wp2_with (at_builtin; refine Held.go ?_)
    have ho := Own.lit w 5 w.heap.size [] #[] 0 rfl rfl (Nat.le_refl _) (by omega)
    have hb := below_new w (.cells #[] 5)
    generalize w.alloc (.cells #[] 5) = w1 at ho hb ⊢
    refine wpList_append_bytes _ rfl _ _ _ rfl _ Try.underlying31 info5' w.heap.size _ 0 [] rfl ho B _ n c bs rfl (HS.out.keep hb) (by omega) hb.size ?_
    intro v' w' h1 h2 h3
    have HK := hid (show Own w' w.heap.size 5 v' n bs ∧ Below w.heap.size w w' from ⟨by simpa using h1, hb.trans (below_of_grown h2 hb.size (fun g e => (ho.block g e).1))⟩)
    clear h1 h2 h3 ho hb
    go_wp2_with fail
    go_ret
    exact ⟨v', rfl, HK.out⟩
section
variable (base g f : Nat) (r : Option Nat) (lim : Nat) (s : WS) (w : World)
theorem wDone_failed (h : WrB w base g f r lim s) (he : s.e ≠ 0) :
    Calls Try.prog 29 #[.pointer (some ⟨g, 0, none⟩)] w fun e w' => e = .returned (.tuple #[.slice none 0 0, .int .i64 (s.e : Int)]) ∧ Below w.heap.size w w' := by
  have HV := hid (wvalid_calls base g f r lim s w h)
  obtain ⟨A, c, h1, h2, -⟩ := h
  have HF := hid (failed_calls f s.e _ w h2)
  have c1 := h1.cell 1 rfl
  have f0 := h2.cell 0 rfl
  clear h1 h2
  go_enter Try.func29, Try.ntmps29
  go_wp2_with fail
  refine HV.out.mono ?_
  rintro _ _ ⟨rfl, rfl⟩
  go_wp2_with fail
  refine HF.out.mono ?_
  rintro _ _ ⟨rfl, rfl⟩
  rw [show decide (s.e ≠ 0) = true from by simp [he]]
  go_wp2_with fail
  go_region
  go_wp2_with fail
  go_ret2
  exact ⟨rfl, (Below.refl _ _).drew⟩
theorem wDone_open (h : WrB w base g f r lim s) (he : s.e = 0) :
    Calls Try.prog 29 #[.pointer (some ⟨g, 0, none⟩)] w fun e w' => ∃ v, e = .returned (.tuple #[v, .int .i64 0]) ∧ Own w' w.heap.size 5 v s.bs.length s.bs ∧ Below w.heap.size w w' := by
  have HV := hid (wvalid_calls base g f r lim s w h)
  obtain ⟨A, c, h1, h2, h3, -, -, -, -, -, hl, hlim⟩ := h
  have HF := hid (failed_calls f s.e _ w h2)
  obtain ⟨A1, c1, e1, -, hs, -⟩ := (h3 he).sb
  injection e1 with e1 _ e3
  subst e1 e3
  have HC := hid (clone_calls w.heap.size s.bs.length c A s.bs w hs (by omega))
  have c1 := h1.cell 1 rfl
  have c2 := h1.cell 2 rfl
  clear h1 h2 h3 hs
  rw [he] at HF
  go_enter Try.func29, Try.ntmps29
  go_wp2_with fail
  refine HV.out.mono ?_
  rintro _ _ ⟨rfl, rfl⟩
  go_wp2_with fail
  refine HF.out.mono ?_
  rintro _ _ ⟨rfl, rfl⟩
  rw [show decide ((0 : Nat) ≠ 0) = false from rfl]
  go_wp2_with fail
  refine HC.out.mono ?_
  rintro _ w2 ⟨v, rfl, h1, h2⟩
  have HK := hid (show Own w2 w.heap.size 5 v s.bs.length s.bs ∧ Below w.heap.size w w2 from ⟨h1, h2⟩)
  clear h1 h2
  go_wp2_with fail
  go_ret2
  exact ⟨v, rfl, HK.out⟩
end
end Go.Proofs.Ytcpkjpeimnaimaa
