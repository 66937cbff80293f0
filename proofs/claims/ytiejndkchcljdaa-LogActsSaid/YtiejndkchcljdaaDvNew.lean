/- Contracts: New, Fuse of a device. -/
import Derived.Test.YtiejndkchcljdaaDvAsk
import Derived.Laws.EntriesVeiled
namespace Go.Proofs.Ytiejndkchcljdaa
open Go.RowKit

/-- noughts -/
def noB (n : Nat) : List UInt8 := List.replicate (64 * n) 0
def zsec (n : Nat) : Array Value := (bcs (noB n)).toArray
theorem info_sec : (Try.prog.info? 104).map (fun i => (i.zero, i.size, i.bytes)) = some (some (.agg (Array.replicate 64 (.int .u8 0))), 64, 64) := by kernel_rfl
theorem made_sec (n : Nat) : madeCells (Value.agg (Array.replicate 64 (.int .u8 0))).cells (n * 64) = zsec n := by
  apply Array.ext
  · simp [madeCells, zsec, bcs, noB]; omega
  · intro i h1 h2
    have h3 : i % 64 < 64 := Nat.mod_lt _ (by omega)
    simp [madeCells, zsec, bcs, noB, bv, Value.cells, getElem!_pos, h3]
theorem make_secs (n : Nat) (hn : n ≤ 65536) (W : World) : (Instr.makeSlice 60 (.int .i64 (n : Int)) (.int .i64 (n : Int))).run Try.prog W = .ok (.slice (some ⟨W.heap.size, 0, none⟩) n n) (W.alloc (.cells (zsec n) 104)) := by
  obtain ⟨i, hi, hz, hs, hb⟩ := info_parts info_sec
  have := run_make (P := Try.prog) W 60 104 i _ (by kernel_rfl) hi hz .i64 .i64 (n : Int) (n : Int) (by omega) (by omega) (by rw [hb]; omega) (by omega)
  rw [this, Int.toNat_natCast, hs, made_sec]
def startS (n : Nat) : DS := ⟨n, noB n, noB n, [], none, false⟩
theorem start_ok (n : Nat) (h : n ≤ 65536) : (startS n).OK := ⟨by simp [startS, noB], by simp [startS, noB], h, by simp [startS]⟩
/-- what blank tells -/
def Blank (w : World) (n : Nat) (e : Ending) (w' : World) : Prop :=
  ∃ a m, e = .returned (.agg #[.slice (some ⟨a, 0, none⟩) n n, .slice (some ⟨m, 0, none⟩) n n, .slice none 0 0]) ∧ Blk w' a 104 (zsec n) ∧ Blk w' m 104 (zsec n) ∧ a ≠ m ∧ w.heap.size ≤ a ∧ w.heap.size ≤ m ∧ Below w.heap.size w w'
theorem blank_fin (w W : World) (d a m n : Nat) (hB : Below w.heap.size w W) (hw : w.heap.size ≤ d) (hd : Blk W d 63 #[.slice none 0 0, .slice none 0 0, .slice none 0 0]) (ka : Blk W a 104 (zsec n)) (km : Blk W m 104 (zsec n)) (ha : d < a) (hm : d < m) (hne : a ≠ m) :
    bodyPost Try.prog Try.f48 (Blank w n) Exit.ret ⟨#[.int .i64 (n : Int), undef, .pointer (some ⟨d, 0, none⟩), .int .i64 (n : Int), .slice (some ⟨a, 0, none⟩) n n, .int .i64 (n : Int), .slice (some ⟨m, 0, none⟩) n n, .agg #[.slice (some ⟨a, 0, none⟩) n n, .slice (some ⟨m, 0, none⟩) n n, .slice none 0 0]], []⟩
      ((((W.setCell ⟨d, 0, none⟩ (.slice (some ⟨a, 0, none⟩) n n)).setCell ⟨d, 1, none⟩ (.slice (some ⟨m, 0, none⟩) n n)).setCell ⟨d, 2, none⟩ (.slice none 0 0)).drew) := by
  have k0 := (((hd.set_ 0 (.slice (some ⟨a, 0, none⟩) n n)).set_ 1 (.slice (some ⟨m, 0, none⟩) n n)).set_ 2 (.slice none 0 0)).drew
  have hc : Chg [d] W ((((W.setCell ⟨d, 0, none⟩ (.slice (some ⟨a, 0, none⟩) n n)).setCell ⟨d, 1, none⟩ (.slice (some ⟨m, 0, none⟩) n n)).setCell ⟨d, 2, none⟩ (.slice none 0 0)).drew) :=
    (((chg_set (L := [d]) (by simp) 0 _).trans (chg_set (L := [d]) (by simp) 1 _) (fun b hb => .inl hb)).trans (chg_set (L := [d]) (by simp) 2 _) (fun b hb => .inl hb)).drew
  generalize (((W.setCell ⟨d, 0, none⟩ (.slice (some ⟨a, 0, none⟩) n n)).setCell ⟨d, 1, none⟩ (.slice (some ⟨m, 0, none⟩) n n)).setCell ⟨d, 2, none⟩ (.slice none 0 0)).drew = W3 at k0 hc ⊢
  have c0 := k0.cell 0 rfl
  have c1 := k0.cell 1 rfl
  have c2 := k0.cell 2 rfl
  exact bodyPost_ret (v := .agg #[.slice (some ⟨a, 0, none⟩) n n, .slice (some ⟨m, 0, none⟩) n n, .slice none 0 0]) (by simp [results, Try.results48, go_sem, c0, c1, c2]) rfl
    ⟨a, m, rfl, ka.chg hc (by simp; omega), km.chg hc (by simp; omega), hne, by omega, by omega, hB.trans (hc.below (by simpa using hw) hB.size)⟩
set_option maxHeartbeats 1000000 in
theorem blank_calls (n : Nat) (hn : n ≤ 65536) (w : World) : Calls Try.prog 48 #[.int .i64 (n : Int)] w (Blank w n) := by
  have hq := make_secs n hn
  have BB := hid (below_new w (.cells #[.slice none 0 0, .slice none 0 0, .slice none 0 0] 63))
  have SS := hid (size_new w (.cells #[.slice none 0 0, .slice none 0 0, .slice none 0 0] 63))
  have k0 := Blk.new w 63 #[.slice none 0 0, .slice none 0 0, .slice none 0 0]
  go_enter Try.func48, Try.ntmps48
  go_wp2_with fail
  generalize w.alloc (.cells #[.slice none 0 0, .slice none 0 0, .slice none 0 0] 63) = w1 at *
  have b2 := below_new w1 (.cells (zsec n) 104)
  have b3 := below_new (w1.alloc (.cells (zsec n) 104)) (.cells (zsec n) 104)
  have s2 := size_new w1 (.cells (zsec n) 104)
  have s3 := size_new (w1.alloc (.cells (zsec n) 104)) (.cells (zsec n) 104)
  have k2 := (Blk.new w1 104 (zsec n)).keep b3
  have k3 := Blk.new (w1.alloc (.cells (zsec n) 104)) 104 (zsec n)
  have k4 := (k0.keep b2).keep b3
  have B3 := hid (BB.out.trans ((b2.trans (b3.mono b2.size)).mono BB.out.size))
  rw [s2] at k3
  have K2 := hid k2; have K3 := hid k3
  clear k2 k3 b2 b3 k0
  have c0 := k4.cell 0 rfl
  have c1 := k4.cell 1 rfl
  have c2 := k4.cell 2 rfl
  have f0 := k4.frozen 0
  have f1 := k4.frozen 1
  have f2 := k4.frozen 2
  have K4 := hid k4; have S2 := hid s2; have S3 := hid s3
  clear k4 s2 s3
  go_region
  all_goals
    go_wp2_with fail
    first
    | exact blank_fin w _ w.heap.size w1.heap.size (w1.heap.size + 1) n B3.out (Nat.le_refl _) K4.out K2.out K3.out (by have := SS.out; omega) (by have := SS.out; omega) (by omega)
    | exact blank_fin w _ w.heap.size (w1.heap.size + 1) w1.heap.size n B3.out (Nat.le_refl _) K4.out K3.out K2.out (by have := SS.out; omega) (by have := SS.out; omega) (by omega)
theorem new_bad (n : Int) (w : World) (h : n < 1 ∨ 65536 < n) : Calls Try.prog 11 #[.int .i64 n] w fun e w' => e = .returned (.tuple #[.pointer none, .int .i64 3]) ∧ w = w' := by
  rcases h with h | h
  · go_enter Try.func11, Try.ntmps11
    go_wp2_with fail
    go_ret2
    exact ⟨rfl, rfl⟩
  · have h1 : ¬ n < 1 := by omega
    go_enter Try.func11, Try.ntmps11
    go_wp2_with fail
    go_ret2
    exact ⟨rfl, rfl⟩
theorem new_calls (n : Nat) (w : World) (h1 : 1 ≤ n) (h2 : n ≤ 65536) :
    Calls Try.prog 11 #[.int .i64 (n : Int)] w fun e w' => ∃ g F, e = .returned (.tuple #[.pointer (some ⟨g, 0, none⟩), .int .i64 0]) ∧ DevB w' w.heap.size F g (startS n) ∧ Below w.heap.size w w' := by
  have HB := hid (blank_calls n h2 w)
  have e1 : ¬ (n : Int) < 1 := by omega
  have e2 : ¬ 65536 < (n : Int) := by omega
  go_enter Try.func11, Try.ntmps11
  go_wp2_with fail
  refine HB.out.mono ?_
  rintro _ w1 ⟨a, m, rfl, k1, k2, hne, ha, hm, b1⟩
  have K1 := hid k1; have K2 := hid k2; have B1 := hid b1
  clear k1 k2 b1
  go_wp2_with fail
  go_ret2
  have hla := K1.out.lt
  have hlm := K2.out.lt
  have hs1 := B1.out.size
  have kc := Blk.new w1 65 #[.pointer (some ⟨w1.heap.size, 0, none⟩), .slice (some ⟨a, 0, none⟩) n n, .slice (some ⟨m, 0, none⟩) n n, .slice none 0 0, .func (.func 49) #[.agg #[]] #[], .bool false]
  have bc := below_new w1 (.cells #[.pointer (some ⟨w1.heap.size, 0, none⟩), .slice (some ⟨a, 0, none⟩) n n, .slice (some ⟨m, 0, none⟩) n n, .slice none 0 0, .func (.func 49) #[.agg #[]] #[], .bool false] 65)
  have sc := size_new w1 (.cells #[.pointer (some ⟨w1.heap.size, 0, none⟩), .slice (some ⟨a, 0, none⟩) n n, .slice (some ⟨m, 0, none⟩) n n, .slice none 0 0, .func (.func 49) #[.agg #[]] #[], .bool false] 65)
  refine ⟨w1.heap.size, [w1.heap.size, a, m], rfl, ⟨a, m, none, 0, none, ⟨kc, K1.out.keep bc, K2.out.keep bc, World.ownsRow_nil _ _ _ _, trivial, by omega, by omega, hne, (fun b e => by cases e), (fun f e => by cases e), by omega, ha, hm⟩, start_ok n h2, ?_, ?_⟩, ?_⟩
  · rintro b (rfl | rfl | rfl | hb | hb)
    · simp
    · simp
    · simp
    · cases hb
    · cases hb
  · intro b hb
    simp only [List.mem_cons, List.not_mem_nil, or_false] at hb
    omega
  · exact B1.out.trans (bc.mono hs1)

/-- what Fuse does -/
def fuseE (s : DS) (n : Int) : Nat := if s.out = true then 22 else if n < 0 then 2 else 0
def fuseS (s : DS) (n : Int) : DS := if fuseE s n = 0 then { s with fuse := some n.toNat } else s
theorem fuse_ok {s : DS} (h : s.OK) (n : Int) : (fuseS s n).OK := by
  unfold fuseS; split
  · exact ⟨h.n1, h.n2, h.nb, h.lo⟩
  · exact h
theorem DevPost.same {w : World} {base g : Nat} {F : List Nat} {s : DS} (h : DevB w base F g s) (v : Value) : DevPost w base F g s v (.returned v) w := ⟨rfl, F, h, Chg.refl _ _, fun _ hb => .inl hb⟩
theorem DevPost.ret {w w' : World} {base g : Nat} {F : List Nat} {s : DS} {v : Value} {e : Ending} (h : DevPost w base F g s v e w') : e = .returned v := h.1
/-- the device's own block, its fuse set -/
theorem DevIn.set4 {w : World} {base g a m c : Nat} {A : Option Addr} {q q' : Option Nat} {s : DS} {fuse : Option Nat} (h : DevIn w base g a m A c q s) (hf : FuseB w q' fuse) (hrs : ∀ b, rowOf A = some b → q' ≠ some b)
    (hqs : ∀ f, q' = some f → f ≠ g ∧ f ≠ a ∧ f ≠ m ∧ base ≤ f ∧ f < w.heap.size) : DevIn (w.setCell ⟨g, 4, none⟩ (fnv q')) base g a m A c q' { s with fuse := fuse } := by
  have hc : Chg [g] w (w.setCell ⟨g, 4, none⟩ (fnv q')) := chg_set (L := [g]) (by simp) 4 _
  exact { hd := h.hd.set_ 4 _, now := h.now.chg hc (by simpa using h.ga.symm), img := h.img.chg hc (by simpa using h.gm.symm), row := ownsRow_chg h.row hc (fun b hb => by simpa using (h.rs b (by rwa [own_row] at hb)).1),
          fz := hf.chg hc (fun f hf => by simpa using (hqs f hf).1), ga := h.ga, gm := h.gm, am := h.am, rs := fun b hb => ⟨(h.rs b hb).1, (h.rs b hb).2.1, (h.rs b hb).2.2.1, hrs b hb⟩, qs := fun f hf => by simpa using hqs f hf, hg := h.hg, ha := h.ha, hm := h.hm }
set_option maxHeartbeats 1000000 in
theorem dFuse_calls (base g : Nat) (F : List Nat) (s : DS) (w : World) (n : Int) (hb : base ≤ w.heap.size) (h : DevB w base F g s) :
    Calls Try.prog 24 #[.pointer (some ⟨g, 0, none⟩), .int .i64 n] w (DevPost w base F g (fuseS s n) (.int .i64 (fuseE s n : Int))) := by
  have HS := hid h
  obtain ⟨a, m, A, c, q, h, hok, hF, hlt⟩ := h
  have HV := hid (state_calls base g a m c A q s w h)
  by_cases ho : s.out = true
  · have HK := hid (show DevPost w base F g (fuseS s n) (.int .i64 (fuseE s n : Int)) (.returned (.int .i64 22)) w from by
      have e : fuseE s n = 22 := if_pos ho
      rw [show fuseS s n = s from by unfold fuseS; rw [e]; rfl, e]; exact DevPost.same HS.out _)
    rw [if_pos ho] at HV
    clear h ho hok hF hlt HS
    generalize fuseS s n = s' at HK ⊢
    generalize fuseE s n = e' at HK ⊢
    go_enter Try.func24, Try.ntmps24
    go_wp2_with fail
    refine HV.out.mono ?_
    rintro _ _ ⟨rfl, rfl⟩
    go_wp2_with fail
    go_ret
    exact HK.out
  rw [if_neg ho] at HV
  by_cases hn : n < 0
  · have HK := hid (show DevPost w base F g (fuseS s n) (.int .i64 (fuseE s n : Int)) (.returned (.int .i64 2)) w from by
      have e : fuseE s n = 2 := by unfold fuseE; rw [if_neg ho, if_pos hn]
      rw [show fuseS s n = s from by unfold fuseS; rw [e]; rfl, e]; exact DevPost.same HS.out _)
    clear h ho hok hF hlt HS
    generalize fuseS s n = s' at HK ⊢
    generalize fuseE s n = e' at HK ⊢
    go_enter Try.func24, Try.ntmps24
    go_wp2_with fail
    refine HV.out.mono ?_
    rintro _ _ ⟨rfl, rfl⟩
    go_wp2_with fail
    go_ret
    exact HK.out
  · have b1 := below_new w (.cells #[.int .i64 n] 102)
    have k1 := Blk.new w 102 #[.int .i64 n]
    have s1 := size_new w (.cells #[.int .i64 n] 102)
    have HK := hid (show DevPost w base F g (fuseS s n) (.int .i64 (fuseE s n : Int)) (.returned (.int .i64 0)) ((w.alloc (.cells #[.int .i64 n] 102)).setCell ⟨g, 4, none⟩ (fnv (some w.heap.size))) from by
      have e : fuseE s n = 0 := by unfold fuseE; rw [if_neg ho, if_neg hn]
      rw [show fuseS s n = { s with fuse := some n.toNat } from by unfold fuseS; rw [e]; rfl, e]
      have hlt2 := h.lt
      refine DevPost.of (A := A) (q := q) (a := a) (m := m) (v := .tuple #[]) (e := .returned (.tuple #[])) hF hlt ⟨hok.n1, hok.n2, hok.nb, hok.lo⟩ ⟨rfl, A, c, some w.heap.size, (h.keep b1).set4 ?_ ?_ ?_, (Chg.of_below b1).trans (chg_set (by simp [fpL]) 4 _) (fun b hb => .inl hb), .inl rfl, .inr (fun f hf => by cases hf; exact Nat.le_refl _)⟩ rfl
      · simp only [FuseB]; rw [show ((n.toNat : Nat) : Int) = n by omega]; exact k1
      · intro b hb hc; cases hc; have := (hlt2 _ (.inr (.inr (.inr (.inl hb))))).2; omega
      · intro f hf; cases hf
        have h1 := (hlt2 g (.inl rfl)).2
        have h2 := (hlt2 a (.inr (.inl rfl))).2
        have h3 := (hlt2 m (.inr (.inr (.inl rfl)))).2
        exact ⟨by omega, by omega, by omega, hb, by omega⟩)
    have c4 := (h.hd.keep b1).cell 4 rfl
    have f4 := (h.hd.keep b1).frozen 4
    simp only [fnv] at HK
    clear h ho hok hF hlt HS k1 b1 s1
    generalize fuseS s n = s' at HK ⊢
    generalize fuseE s n = e' at HK ⊢
    go_enter Try.func24, Try.ntmps24
    go_wp2_with fail
    refine HV.out.mono ?_
    rintro _ _ ⟨rfl, rfl⟩
    go_wp2_with (refine wpList_box_blk rfl 102 _ rfl #[.int .i64 n] rfl ?_)
    generalize w.alloc (.cells #[.int .i64 n] 102) = w1 at c4 f4 HK ⊢
    go_wp2_with fail
    go_ret
    exact HK.out
end Go.Proofs.Ytiejndkchcljdaa
