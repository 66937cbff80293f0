/- Contract: a law's reads, kind by kind. -/
import Derived.Test.YtcpkjpeimnaimaaWrBackC
import Derived.Test.YtcpkjpeimnaimaaWrForm
import Derived.Test.YtcpkjpeimnaimaaPhaseT
namespace Go.Proofs.Ytcpkjpeimnaimaa
open Go.RowKit

attribute [local go_sem] steady
attribute [local irreducible] wpPhase
section
variable (base g f : Nat) (r : Option Nat) (bs : List UInt8) (s : RS) (t : Th) (w : World)
/-- what a call that reads a thing leaves -/
def RtPost (w : World) (base g f : Nat) (r : Option Nat) (bs : List UInt8) (t : Th) (s : RS) (e : Ending) (w' : World) : Prop := e = .returned (.bool (rdV bs t s)) ∧ RdPost w base g f r bs (rdS bs t s) w'
theorem RdPost.fresh {w w1 w2 : World} {base g f : Nat} {r : Option Nat} {bs : List UInt8} {s' : RS} (k1 : Below w.heap.size w w1) (h : RdPost w1 base g f r bs s' w2) : RdPost w base g f r bs s' w2 := ⟨h.1, (Chg.of_below k1).trans h.2 (fun _ hb => .inl hb)⟩
theorem rblk {w w1 w2 : World} {base g f : Nat} {r : Option Nat} {bs : List UInt8} {s s' : RS} {B : Nat} {T : TypeId} {cs : Array Value} (hd : RdB w base g f r bs s) (hB : w.heap.size ≤ B) (hb : Blk w1 B T cs) (h : RdPost w1 base g f r bs s' w2) : Blk w2 B T cs :=
  hb.chg h.2 (by have h1 := hd.lt; simp; omega)
set_option maxHeartbeats 1000000 in
theorem reads0 (hk : t.k = 0) (h : RdB w base g f r bs s) (ht : TOK w t) :
    Calls Try.prog 58 #[.pointer (some ⟨g, 0, none⟩), .agg (TV t)] w (RtPost w base g f r bs t s) := by
  obtain ⟨b1, k1, t1⟩ := th_cells t w ht
  have HH := hid h
  have e1 : rdV bs t s = (((numS bs maxI 0 s).1 : Int) == t.n) := if_pos hk
  have e2 : rdS bs t s = (numS bs maxI 0 s).2 := if_pos hk
  have HFIN := hid (show ∀ w', RdPost w base g f r bs (numS bs maxI 0 s).2 w' → RtPost w base g f r bs t s (.returned (.bool (((numS bs maxI 0 s).1 : Int) == t.n))) w' from fun w' hp => ⟨by rw [e1], by rw [e2]; exact hp⟩)
  have c0 := k1.cell 0 (TV_head (t := t) (i := 0) rfl)
  have HC1 := hid (fun W (hb : Blk W w.heap.size 38 (TV t)) => hb.cell 1 (TV_head (t := t) (i := 1) rfl))
  rw [hk] at c0
  have H1 := hid (h.keep b1); have B1 := hid b1; have K1 := hid k1
  clear h ht k1 b1 t1 e1 e2 hk
  generalize TV t = cs at c0 HC1 B1 H1 K1 ⊢
  go_enter Try.func58, Try.ntmps58
  go_wp2_with fail
  generalize w.alloc (.cells cs 38) = w1 at c0 B1 H1 K1 ⊢
  refine wp_region_phase (fun k w' => Blk w' w.heap.size 38 cs ∧ if k = 0 then w' = w1.drew else RdPost w1.drew base g f r bs (numS bs maxI 0 s).2 w') (fun w' => Blk w' w.heap.size 38 cs) (fun _ w' h => h.1) (by kernel_rfl) (by kernel_rfl) (by kernel_rfl) ⟨K1.out.drew, rfl⟩ ?_
  intro S _ at_ hS
  have c1 := fun x => HC1.out _ (hS x)
  clear hS HC1
  (refine phase_plain rfl (fun K hK => ?_); go_simp; refine hK _ ?_; clear hK K)
  refine phase_call rfl rfl 36 #[.pointer (some ⟨g, 0, none⟩)] (fun w => by go_simp) (.int .i64 ((numS bs maxI 0 s).1 : Int)) (fun w' hw => by
    obtain ⟨hb, rfl⟩ := hw
    exact (rNum_calls base g f r bs s _ H1.out.drew).mono fun e w'' ⟨he, hp⟩ => ⟨he, rblk HH.out (Nat.le_refl _) hb hp, hp⟩) ?_
  (refine phase_plain rfl (fun K hK => ?_); go_simp; refine hK _ ?_; clear hK K)
  (refine phase_plain rfl (fun K hK => ?_); go_simp; refine hK _ ?_; clear hK K)
  (refine phase_plain rfl (fun K hK => ?_); go_simp; refine hK _ ?_; clear hK K)
  (refine phase_plain rfl (fun K hK => ?_); go_simp; refine hK _ ?_; clear hK K)
  refine phase_nil ?_
  rintro w2 ⟨-, hp⟩
  have hp2 : RdPost w1.drew base g f r bs (numS bs maxI 0 s).2 w2 := hp
  have HK := hid (HFIN.out w2 (RdPost.fresh B1.out.drew hp2))
  clear hp hp2 c1 HFIN
  go_wp2_with fail
  go_ret
  exact HK.out
set_option maxHeartbeats 2000000 in
theorem reads1 (hk : t.k = 1) (h : RdB w base g f r bs s) (ht : TOK w t) (B : Nat) (hs : SB w B t.A t.cs.length t.cs) (hA : ∀ b off, t.A = some ⟨b, off, none⟩ → b < B → b ∉ [g, f]) :
    Calls Try.prog 58 #[.pointer (some ⟨g, 0, none⟩), .agg (TV t)] w (RtPost w base g f r bs t s) := by
  obtain ⟨b1, k1, t1⟩ := th_cells t w ht
  have HH := hid h
  have e1 : rdV bs t s = ((sizedS bs (t.cs.length : Int) s).1 == t.cs) := by unfold rdV; rw [if_neg (by omega), if_pos (.inl hk)]
  have e2 : rdS bs t s = ((sizedS bs (t.cs.length : Int) s).2) := by unfold rdS; rw [if_neg (by omega), if_pos (.inl hk)]
  have HFIN := hid (show ∀ w', RdPost w base g f r bs ((sizedS bs (t.cs.length : Int) s).2) w' → RtPost w base g f r bs t s (.returned (.bool ((sizedS bs (t.cs.length : Int) s).1 == t.cs))) w' from fun w' hp => ⟨by rw [e1], by rw [e2]; exact hp⟩)
  have c0 := k1.cell 0 (TV_head (t := t) (i := 0) rfl)
  rw [hk] at c0
  have HC2 := hid (fun W (hb : Blk W w.heap.size 38 (TV t)) => hb.cell 2 (TV_head (t := t) (i := 2) rfl))
  have H1 := hid (h.keep b1); have B1 := hid b1; have K1 := hid k1
  have HS1 := hid (hs.keep b1)
  have HA := hid hA
  have HST := hid (fun W (hw : SB W B t.A t.cs.length t.cs) => run_str (P := Try.prog) hw t.c 31 9 5 Try.underlying31 Try.underlying5 Try.underlying9)
  have HEQ := hid (strB_eq (sizedS bs (t.cs.length : Int) s).1 t.cs)
  clear h ht k1 b1 t1 e1 e2 hk hs hA
  generalize TV t = cs at c0 HC2 B1 H1 K1 HS1 ⊢
  generalize t.A = A at HC2 HS1 HA HST
  generalize t.c = c at HC2 HST
  go_enter Try.func58, Try.ntmps58
  go_wp2_with fail
  generalize w.alloc (.cells cs 38) = w1 at c0 B1 H1 K1 HS1 ⊢
  refine wp_region_phase (fun k w' => (Blk w' w.heap.size 38 cs ∧ SB w' B A t.cs.length t.cs) ∧ if k = 0 then w' = w1.drew else RdPost w1.drew base g f r bs (sizedS bs (t.cs.length : Int) s).2 w') (fun w' => Blk w' w.heap.size 38 cs ∧ SB w' B A t.cs.length t.cs) (fun _ w' h => h.1) (by kernel_rfl) (by kernel_rfl) (by kernel_rfl) ⟨⟨K1.out.drew, HS1.out.drew⟩, rfl⟩ ?_
  intro S _ at_ hS
  have c2 := fun x => HC2.out _ (hS x).1
  have hst := fun x => HST.out _ (hS x).2
  clear hS HC2
  (refine phase_plain rfl (fun K hK => ?_); go_simp; refine hK _ ?_; clear hK K)
  (refine phase_plain rfl (fun K hK => ?_); go_simp; refine hK _ ?_; clear hK K)
  (refine phase_plain rfl (fun K hK => ?_); go_simp; refine hK _ ?_; clear hK K)
  (refine phase_plain rfl (fun K hK => ?_); go_simp; refine hK _ ?_; clear hK K)
  refine phase_call rfl rfl 38 #[.pointer (some ⟨g, 0, none⟩), .int .i64 (t.cs.length : Int)] (fun w => by go_simp) (.string (strB (sizedS bs (t.cs.length : Int) s).1)) (fun w' hw => by
    obtain ⟨⟨hb, hsb⟩, rfl⟩ := hw
    exact (rText_calls base g f r bs s _ (t.cs.length : Int) H1.out.drew).mono fun e w'' ⟨he, hp⟩ => ⟨he, ⟨rblk HH.out (Nat.le_refl _) hb hp, hsb.chg hp.2 (fun b off e hl => HA.out b off e hl)⟩, hp⟩) ?_
  (refine phase_plain rfl (fun K hK => ?_); go_simp; refine hK _ ?_; clear hK K)
  (refine phase_plain rfl (fun K hK => ?_); go_simp; refine hK _ ?_; clear hK K)
  (refine phase_plain rfl (fun K hK => ?_); go_simp; refine hK _ ?_; clear hK K)
  (refine phase_plain rfl (fun K hK => ?_); go_simp; refine hK _ ?_; clear hK K)
  (refine phase_plain rfl (fun K hK => ?_); go_simp; refine hK _ ?_; clear hK K)
  refine phase_nil ?_
  rintro w2 ⟨-, hp⟩
  have hp2 : RdPost w1.drew base g f r bs (sizedS bs (t.cs.length : Int) s).2 w2 := hp
  have HK := hid (HFIN.out w2 (RdPost.fresh B1.out.drew hp2))
  clear hp hp2 c2 hst HFIN
  go_wp2_with fail
  go_ret
  exact ⟨by rw [← HK.out.1]; exact ret_bool HEQ.out, HK.out.2⟩
set_option maxHeartbeats 2000000 in
theorem reads3 (hk : t.k = 3) (h : RdB w base g f r bs s) (ht : TOK w t) :
    Calls Try.prog 58 #[.pointer (some ⟨g, 0, none⟩), .agg (TV t)] w (RtPost w base g f r bs t s) := by
  obtain ⟨b1, k1, t1⟩ := th_cells t w ht
  have HH := hid h
  have e1 : rdV bs t s = ((idS bs s).1 == t.id) := by unfold rdV; rw [if_neg (by omega), if_neg (by omega), if_pos hk]
  have e2 : rdS bs t s = ((idS bs s).2) := by unfold rdS; rw [if_neg (by omega), if_neg (by omega), if_pos hk]
  have HFIN := hid (show ∀ w', RdPost w base g f r bs ((idS bs s).2) w' → RtPost w base g f r bs t s (.returned (.bool ((idS bs s).1 == t.id))) w' from fun w' hp => ⟨by rw [e1], by rw [e2]; exact hp⟩)
  have c0 := k1.cell 0 (TV_head (t := t) (i := 0) rfl)
  rw [hk] at c0
  have h32 := t1.1
  have HLD := hid (fun W (hb : Blk W w.heap.size 38 (TV t)) => show (loadVar 33 ⟨w.heap.size, 3, none⟩).run Try.prog W = .ok (.agg (bcells t.id)) W from
    part_load (pre := thHead t) (mid := t.id.map bv) (post := thTail t) hb 33 rfl Try.underlying33 rfl (by rw [List.length_map, h32]; kernel_rfl))
  have hidl : (idS bs s).1.length = 32 := by
    cases s with
    | ok a => exact fill32_length _
    | bad e p => simp [idS, zeroB]
  have HEQ := hid (run_equal_arr (P := Try.prog) 33 5 32 Try.underlying33 Try.underlying5 (by kernel_rfl) (idS bs s).1 t.id hidl h32)
  have H1 := hid (h.keep b1); have B1 := hid b1; have K1 := hid k1
  clear h ht k1 b1 t1 e1 e2 hk h32 hidl
  generalize TV t = cs at c0 HLD B1 H1 K1 ⊢
  go_enter Try.func58, Try.ntmps58
  go_wp2_with fail
  generalize w.alloc (.cells cs 38) = w1 at c0 B1 H1 K1 ⊢
  refine wp_region_phase (fun k w' => Blk w' w.heap.size 38 cs ∧ if k = 0 then w' = w1.drew else RdPost w1.drew base g f r bs (idS bs s).2 w') (fun w' => Blk w' w.heap.size 38 cs) (fun _ w' h => h.1) (by kernel_rfl) (by kernel_rfl) (by kernel_rfl) ⟨K1.out.drew, rfl⟩ ?_
  intro S _ at_ hS
  have HSX := hid hS
  clear hS
  (refine phase_plain rfl (fun K hK => ?_); go_simp; refine hK _ ?_; clear hK K)
  refine phase_call rfl rfl 42 #[.pointer (some ⟨g, 0, none⟩)] (fun w => by go_simp) (.agg (bcells (idS bs s).1)) (fun w' hw => by
    obtain ⟨hb, rfl⟩ := hw
    exact (rID_calls base g f r bs s _ H1.out.drew).mono fun e w'' ⟨he, hp⟩ => ⟨he, rblk HH.out (Nat.le_refl _) hb hp, hp⟩) ?_
  (refine phase_plain rfl (fun K hK => ?_); go_simp; refine hK _ ?_; clear hK K)
  refine phase_load_run rfl rfl 33 _ rfl ⟨w.heap.size, 3, none⟩ rfl (.agg (bcells t.id)) (by rintro w' ⟨x, rfl⟩; exact HLD.out _ (HSX.out x)) ?_
  have heq : ∀ W, (Op.equalIn 10000 33 (.agg (bcells (idS bs s).1)) (.agg (bcells t.id))).run Try.prog W = .ok ((idS bs s).1 == t.id) W := HEQ.out
  clear HEQ
  (refine phase_plain rfl (fun K hK => ?_); go_simp; refine hK _ ?_; clear hK K)
  clear heq
  (refine phase_plain rfl (fun K hK => ?_); go_simp; refine hK _ ?_; clear hK K)
  refine phase_nil ?_
  rintro w2 ⟨-, hp⟩
  have hp2 : RdPost w1.drew base g f r bs (idS bs s).2 w2 := hp
  have HK := hid (HFIN.out w2 (RdPost.fresh B1.out.drew hp2))
  clear hp hp2 HFIN HSX HLD
  go_wp2_with fail
  go_ret
  exact HK.out
set_option maxHeartbeats 2000000 in
theorem reads6 (hk : t.k = 6) (h : RdB w base g f r bs s) (ht : TOK w t) :
    Calls Try.prog 58 #[.pointer (some ⟨g, 0, none⟩), .agg (TV t)] w (RtPost w base g f r bs t s) := by
  obtain ⟨b1, k1, t1⟩ := th_cells t w ht
  have HH := hid h
  have e1 : rdV bs t s = ((((numS bs 1 5 s).1 : Int) == 1) == t.b) := by unfold rdV; rw [if_neg (by omega), if_neg (by omega), if_neg (by omega), if_neg (by omega), if_neg (by omega), if_pos hk]
  have e2 : rdS bs t s = ((numS bs 1 5 s).2) := by unfold rdS; rw [if_neg (by omega), if_neg (by omega), if_neg (by omega), if_neg (by omega), if_neg (by omega), if_pos hk]
  have HFIN := hid (show ∀ w', RdPost w base g f r bs ((numS bs 1 5 s).2) w' → RtPost w base g f r bs t s (.returned (.bool ((((numS bs 1 5 s).1 : Int) == 1) == t.b))) w' from fun w' hp => ⟨by rw [e1], by rw [e2]; exact hp⟩)
  have c0 := k1.cell 0 (TV_head (t := t) (i := 0) rfl)
  rw [hk] at c0
  have HC8 := hid (fun W (hb : Blk W w.heap.size 38 (TV t)) => hb.cell 38 (TV_tail (t := t) t1.1 (i := 3) rfl))
  have H1 := hid (h.keep b1); have B1 := hid b1; have K1 := hid k1
  clear h ht k1 b1 t1 e1 e2 hk
  generalize TV t = cs at c0 HC8 B1 H1 K1 ⊢
  generalize t.b = tb at HC8 HFIN
  generalize hx : (((numS bs 1 5 s).1 : Int) == 1) = x1 at HFIN
  have HX := hid hx
  clear hx
  go_enter Try.func58, Try.ntmps58
  go_wp2_with fail
  generalize w.alloc (.cells cs 38) = w1 at c0 B1 H1 K1 ⊢
  refine wp_region_phase (fun k w' => Blk w' w.heap.size 38 cs ∧ if k = 0 then w' = w1.drew else RdPost w1.drew base g f r bs (numS bs 1 5 s).2 w') (fun w' => Blk w' w.heap.size 38 cs) (fun _ w' h => h.1) (by kernel_rfl) (by kernel_rfl) (by kernel_rfl) ⟨K1.out.drew, rfl⟩ ?_
  intro S _ at_ hS
  have c8 := fun x => HC8.out _ (hS x)
  clear hS HC8
  (refine phase_plain rfl (fun K hK => ?_); go_simp; refine hK _ ?_; clear hK K)
  refine phase_call rfl rfl 49 #[.pointer (some ⟨g, 0, none⟩)] (fun w => by go_simp) (.bool x1) (fun w' hw => by
    obtain ⟨hb, rfl⟩ := hw
    exact (rBool_calls base g f r bs s _ H1.out.drew).mono fun e w'' ⟨he, hp⟩ => ⟨by rw [he, HX.out], rblk HH.out (Nat.le_refl _) hb hp, hp⟩) ?_
  (refine phase_plain rfl (fun K hK => ?_); go_simp; refine hK _ ?_; clear hK K)
  (refine phase_plain rfl (fun K hK => ?_); go_simp; refine hK _ ?_; clear hK K)
  (refine phase_plain rfl (fun K hK => ?_); go_simp; refine hK _ ?_; clear hK K)
  (refine phase_plain rfl (fun K hK => ?_); go_simp; refine hK _ ?_; clear hK K)
  refine phase_nil ?_
  rintro w2 ⟨-, hp⟩
  have hp2 : RdPost w1.drew base g f r bs (numS bs 1 5 s).2 w2 := hp
  have HK := hid (HFIN.out w2 (RdPost.fresh B1.out.drew hp2))
  clear hp hp2 c8 HFIN
  go_wp2_with fail
  go_ret
  exact HK.out
theorem readsN (hk : t.k < 0 ∨ 6 < t.k) (h : RdB w base g f r bs s) (ht : TOK w t) :
    Calls Try.prog 58 #[.pointer (some ⟨g, 0, none⟩), .agg (TV t)] w (RtPost w base g f r bs t s) := by
  obtain ⟨b1, k1, t1⟩ := th_cells t w ht
  have e1 : rdV bs t s = true := by unfold rdV; rw [if_neg (by omega), if_neg (by omega), if_neg (by omega), if_neg (by omega), if_neg (by omega), if_neg (by omega)]
  have e2 : rdS bs t s = s := by unfold rdS; rw [if_neg (by omega), if_neg (by omega), if_neg (by omega), if_neg (by omega), if_neg (by omega), if_neg (by omega)]
  have HK := hid (show RtPost w base g f r bs t s (.returned (.bool true)) (w.alloc (.cells (TV t) 38)) from ⟨by rw [e1], by rw [e2]; exact ⟨h.keep b1, Chg.of_below b1⟩⟩)
  have c0 := k1.cell 0 (TV_head (t := t) (i := 0) rfl)
  clear h ht k1 b1 t1 e1 e2
  generalize TV t = cs at c0 HK ⊢
  generalize t.k = k at hk c0
  have n0 : ¬ k = 0 := by omega
  have n1 : ¬ k = 1 := by omega
  have n2 : ¬ k = 2 := by omega
  have n3 : ¬ k = 3 := by omega
  have n4 : ¬ k = 4 := by omega
  have n5 : ¬ k = 5 := by omega
  have n6 : ¬ k = 6 := by omega
  clear hk
  go_enter Try.func58, Try.ntmps58
  go_wp2_with fail
  go_ret
  exact HK.out
end
end Go.Proofs.Ytcpkjpeimnaimaa
