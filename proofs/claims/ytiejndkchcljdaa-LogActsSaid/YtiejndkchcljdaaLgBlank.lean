/- Contract: a log's Blank. -/
import Derived.Test.YtiejndkchcljdaaLgDev
namespace Go.Proofs.Ytiejndkchcljdaa
open Go.RowKit

def zeros64 : List UInt8 := List.replicate 64 0
theorem zeros64_len : zeros64.length = 64 := by simp [zeros64]
theorem ns0_bcs : ns0.toArray = (bcs zeros64).toArray := rfl
/-- what Blank leaves, and answers -/
def blankR (s : DS) (a : AR) : DS × Nat :=
  if checkE s.n a = 0 then
    (if (writesS s a.a (List.replicate (a.b - a.a).toNat zeros64)).2 = 0 then (flushD (writesS s a.a (List.replicate (a.b - a.a).toNat zeros64)).1, flushE (writesS s a.a (List.replicate (a.b - a.a).toNat zeros64)).1) else writesS s a.a (List.replicate (a.b - a.a).toNat zeros64))
  else (s, checkE s.n a)
theorem two_new (w : World) (c1 c2 : Array Value) (t1 t2 : TypeId) : ∃ W, W = (w.alloc (.cells c1 t1)).alloc (.cells c2 t2) ∧ Blk W w.heap.size t1 c1 ∧ Blk W (w.heap.size + 1) t2 c2 ∧ Below w.heap.size w W := by
  have s1 := size_new w (.cells c1 t1)
  have b1 := below_new w (.cells c1 t1)
  have b2 := below_new (w.alloc (.cells c1 t1)) (.cells c2 t2)
  have k1 := (Blk.new w t1 c1).keep b2
  have k2 := Blk.new (w.alloc (.cells c1 t1)) t2 c2
  rw [s1] at k2 b2
  exact ⟨_, rfl, k1, k2, b1.trans (b2.mono (by omega))⟩
attribute [local go_sem] steady
attribute [local irreducible] wpPhase
section
variable (base g : Nat) (F : List Nat) (s : DS) (w : World)
set_option maxRecDepth 20000 in
set_option maxHeartbeats 4000000 in
theorem lgBlank_calls (a : AR) (h : DevB w base F g s) (hbase : base ≤ w.heap.size) (hf : fuseOK s) (hlo : s.loose.length + 65536 ≤ 1000000) :
    Calls Try.prog 15 #[.pointer (some ⟨g, 0, none⟩), arv a] w fun e w' => e = .returned (.int .i64 ((blankR s a).2 : Int)) ∧ DevAt w base F g (blankR s a).1 w' := by
  have hnb := h.ok.nb
  have HFL := hid (fun b (hb : b ∈ F) => (h.lt b hb).2)
  have HCK := hid (fun W (hW : Below w.heap.size w W) => check_calls base g F s W a (h.keep hW))
  have HH := hid h
  clear h
  by_cases hC : checkE s.n a = 0
  · have hk := check_ok hC
    have HE := hid (show blankR s a = (if (writesS s a.a (List.replicate (a.b - a.a).toNat zeros64)).2 = 0 then (flushD (writesS s a.a (List.replicate (a.b - a.a).toNat zeros64)).1, flushE (writesS s a.a (List.replicate (a.b - a.a).toNat zeros64)).1) else writesS s a.a (List.replicate (a.b - a.a).toNat zeros64)) from if_pos hC)
    rw [hC] at HCK
    clear hC
    obtain ⟨a0, a1, a2⟩ := a
    obtain ⟨k1, k2, k3, -, -⟩ := hk
    dsimp only at k1 k2 k3 HE
    obtain ⟨f, rfl⟩ : ∃ f : Nat, a0 = (f : Int) := ⟨a0.toNat, by omega⟩
    obtain ⟨n, rfl⟩ : ∃ n : Nat, a1 = ((f + n : Nat) : Int) := ⟨(a1 - f).toNat, by omega⟩
    have hfn : f + n ≤ s.n := by omega
    rw [show (((f + n : Nat) : Int) - (f : Int)).toNat = n by omega] at HE
    generalize hRe : writesS s (f : Int) (List.replicate n zeros64) = R at HE
    have HR := hid hRe
    clear hRe k1 k2 k3
    have HCN := hid (fun W => count_calls (f : Int) ((f + n : Nat) : Int) a2 W (IntWalk.i64_in _ (by omega)))
    have hcn : ((f + n : Nat) : Int) - (f : Int) = (n : Int) := by omega
    rw [hcn] at HCN
    have hft : (f : Int) + (n : Int) ≤ 65536 := by omega
    generalize blankR s ⟨(f : Int), ((f + n : Nat) : Int), a2⟩ = RR at HE ⊢
    generalize ((f + n : Nat) : Int) = tt at HCK HCN hcn ⊢
    unfold arv at HCK HCN ⊢
    dsimp only at HCK HCN ⊢
    have kA := Blk.new w 33 #[.int .i64 (f : Int), .int .i64 tt, .int .i64 a2]
    have bA := below_new w (.cells #[.int .i64 (f : Int), .int .i64 tt, .int .i64 a2] 33)
    have c0 := kA.cell 0 rfl
    have c1 := kA.cell 1 rfl
    have c2 := kA.cell 2 rfl
    have KA := hid kA; have BA := hid bA
    clear kA bA
    go_enter Try.func15, Try.ntmps15
    go_wp2_with fail
    refine (HCK.out _ BA.out).mono ?_
    rintro _ w1 ⟨rfl, hb1⟩
    have BW := hid (BA.out.trans (hb1.mono BA.out.size)); have KA1 := hid (KA.out.keep hb1)
    clear c0 c1 c2 hb1 HCK KA BA
    have NS := hid (⟨below_new w1 (.cells ns0.toArray 88), Blk.new w1 88 ns0.toArray⟩ : Below w1.heap.size w1 (w1.alloc (.cells ns0.toArray 88)) ∧ Blk (w1.alloc (.cells ns0.toArray 88)) w1.heap.size 88 ns0.toArray)
    have kA2 := KA1.out.keep NS.out.1
    have c0 := kA2.cell 0 rfl
    have c1 := kA2.cell 1 rfl
    have c2 := kA2.cell 2 rfl
    go_wp2_with (refine wpList_alloc_blk rfl 88 rfl _ zero_sec ?_)
    have HZ := NS.out.2
    have BW2 := hid (BW.out.trans (NS.out.1.mono BW.out.size))
    clear c0 c1 c2 NS
    generalize w1.alloc (.cells ns0.toArray 88) = w2 at kA2 HZ BW2 ⊢
    generalize hbz : w1.heap.size = bz at HZ ⊢
    have hbzw : w.heap.size < bz := by have := KA1.out.lt; omega
    have KA2 := hid kA2; have KZ := hid HZ
    clear kA2 HZ KA1 hbz
    refine (HCN.out _).mono ?_
    rintro _ w3 ⟨rfl, hb3⟩
    have KA3 := hid (KA2.out.keep hb3); have KZ3 := hid (KZ.out.keep hb3); have BW3 := hid (BW2.out.trans (hb3.mono BW2.out.size))
    clear hb3 HCN KA2 KZ BW2 BW
    have HD3 := hid (DevAt.start (HH.out.keep BW3.out) (Below.refl w3.heap.size w3))
    have hb3 : base ≤ w3.heap.size := Nat.le_trans hbase BW3.out.size
    have hbz3 : bz < w3.heap.size := KZ3.out.lt
    clear HH
    go_wp2_with fail
    go_loopw [17] (fun i wr => ∃ (k : Nat) (s' : DS), k ≤ n ∧ i = .int .i64 (k : Int) ∧ s'.n = s.n ∧ s'.loose.length ≤ s.loose.length + k ∧ Hid (fuseOK s') ∧ Hid (DevAt w3 base F g s' wr) ∧ Hid (Blk wr w.heap.size 33 #[.int .i64 (f : Int), .int .i64 tt, .int .i64 a2]) ∧ Hid (Blk wr bz 88 ns0.toArray) ∧ Hid (writesS s' ((f + k : Nat) : Int) (List.replicate (n - k) zeros64) = R))
      (fun i _ => n - (intOf i).toNat)
    case atStart => exact ⟨0, s, Nat.zero_le _, rfl, rfl, Nat.le_refl _, hid hf, HD3, KA3, KZ3, HR⟩
    case round =>
      clear KA3 KZ3 HR HD3
      obtain ⟨k, s', hk, rfl, hn', hl', HF, HD, HA, HZ, HR⟩ := hrel
      by_cases hlt : k < n
      · have hlt' : (k : Int) < (n : Int) := by omega
        have hsum : IntKind.i64.wrap ((f : Int) + (k : Int)) = ((f + k : Nat) : Int) := by rw [IntWalk.i64_in _ (by omega)]; omega
        have hrep : List.replicate (n - k) zeros64 = zeros64 :: List.replicate (n - (k + 1)) zeros64 := by rw [show n - k = (n - (k + 1)) + 1 by omega, List.replicate_succ]
        rw [hrep] at HR
        have HR1 := hid (show (if writeE s' ((f + k : Nat) : Int) 64 = 0 then writesS (writeS s' ((f + k : Nat) : Int) zeros64) (((f + k : Nat) : Int) + 1) (List.replicate (n - (k + 1)) zeros64) else (writeS s' ((f + k : Nat) : Int) zeros64, writeE s' ((f + k : Nat) : Int) 64)) = R from HR.out)
        have hfar : ∀ F' : List Nat, (∀ b ∈ F', b ∈ F ∨ w3.heap.size ≤ b) → w.heap.size ∉ F' ∧ bz ∉ F' := fun F' h => ⟨fun hm => by
          rcases h _ hm with h | h
          · have := HFL.out _ h; omega
          · omega, fun hm => by
          rcases h _ hm with h | h
          · have := HFL.out _ h; omega
          · omega⟩
        have HFR := hid hfar
        have HW := hid (DevAt.write HD.out.drew hb3 HF.out ((f + k : Nat) : Int) _ 64 64 (some ⟨bz, 0, none⟩) zeros64 (sb_blk (by rw [← ns0_bcs]; exact HZ.out.drew) 0 64 zeros64 rfl zeros64_len) (fun F' _ h _ b off e => by cases e; exact (hfar F' h).2))
        have hwf := write_fuse ((f + k : Nat) : Int) zeros64 HF.out (by omega)
        have hwn := write_n s' ((f + k : Nat) : Int) zeros64
        have HWF := hid hwf.1
        have hwl := hwf.2
        clear hfar hrep HR hwf HD HF
        generalize writeS s' ((f + k : Nat) : Int) zeros64 = s2 at HW HWF hwl hwn HR1
        generalize writeE s' ((f + k : Nat) : Int) 64 = er at HW HR1
        have hcell := HA.out.drew.cell 0 rfl
        go_wp2_with fail
        refine wp_region_phaseT (fun _ => false) 6 (fun _ w' => w' = wr.drew) (fun w' => w'.cell? ⟨w.heap.size, 0, none⟩ = some (.int .i64 (f : Int))) (fun _ w' h => h ▸ hcell) (by kernel_rfl) (by kernel_rfl) (by kernel_rfl) rfl ?_
        intro S _ at_ hS
        have c0 := hS
        simp only [List.take_succ_cons, List.take_zero]
        (refine phase_plain rfl (fun K hK => ?_); go_simp; refine hK _ ?_; clear hK K)
        (refine phase_plain rfl (fun K hK => ?_); go_simp; refine hK _ ?_; clear hK K)
        (refine phase_plain rfl (fun K hK => ?_); go_simp; refine hK _ ?_; clear hK K)
        (refine phase_plain rfl (fun K hK => ?_); go_simp; refine hK _ ?_; clear hK K)
        (refine phase_plain rfl (fun K hK => ?_); go_simp; refine hK _ ?_; clear hK K)
        (refine phase_plain rfl (fun K hK => ?_); go_simp; refine hK _ ?_; clear hK K)
        refine phase_nil ?_
        rintro _ rfl
        clear c0 hS hcell
        simp only [List.drop_succ_cons, List.drop_zero]
        go_wp2_with fail
        refine HW.out.mono ?_
        rintro _ w4 ⟨rfl, hd4, F2, hf2, -, -, hc2⟩
        have HD4 := hid hd4
        have HA4 := hid (HA.out.drew.chg hc2 (HFR.out F2 hf2).1)
        have HZ4 := hid (HZ.out.drew.chg hc2 (HFR.out F2 hf2).2)
        clear hd4 hf2 hc2 HW HA HZ HFR
        by_cases her : er = 0
        · subst her
          have HR2 := hid (show writesS s2 ((f + (k + 1) : Nat) : Int) (List.replicate (n - (k + 1)) zeros64) = R from by
            have := HR1.out
            rw [if_pos rfl, show ((f + k : Nat) : Int) + 1 = ((f + (k + 1) : Nat) : Int) by omega] at this
            exact this)
          clear HR1
          go_wp2_with fail
          go_roundw
          case rel => exact ⟨k + 1, s2, by omega, by go_num, by omega, by omega, HWF, HD4, HA4, HZ4, HR2⟩
          case measure => simp [intOf]; omega
        · have her' : ¬ (er : Int) = 0 := by omega
          have HRR := hid (show RR = (s2, er) from by
            have h1 := HR1.out
            rw [if_neg her] at h1
            rw [HE.out, ← h1, if_neg her])
          clear HR1 HE HA4 HZ4
          go_wp2_with fail
          go_ret
          exact ⟨by rw [HRR.out]; rfl, by rw [HRR.out]; exact DevAt.from_ BW3.out HD4.out⟩
      · obtain rfl : k = n := by omega
        have HRR := hid (show RR = (flushD s', flushE s') from by
          have h1 := HR.out
          rw [Nat.sub_self] at h1
          have h2 : R = (s', 0) := h1.symm
          rw [HE.out, h2, if_pos rfl])
        have HFLU := hid (show Calls Try.prog 20 #[.pointer (some ⟨g, 0, none⟩)] wr fun e w' => e = .returned (.int .i64 (flushE s' : Int)) ∧ DevAt w base F g (flushD s') w' from by
          obtain ⟨F', h1, h2, h3⟩ := DevAt.from_ BW3.out HD.out
          have hsz := h2.size
          refine (dFlush_calls base g F' s' wr h1 HF.out.1 HF.out.2).mono fun e w' ⟨he, F3, q1, q2, q3⟩ => ?_
          exact ⟨he, F3, q1, h2.trans q2 h3, fun b hb => (q3 b hb).elim (fun hb => h3 b hb) (fun hb => .inr (by omega))⟩)
        clear HR HE HA HZ HD HF
        go_wp2_with fail
        refine HFLU.out.mono ?_
        rintro _ w4 ⟨rfl, hd4⟩
        have HD4 := hid hd4
        clear hd4 HFLU
        go_wp2_with fail
        go_ret
        exact ⟨by rw [HRR.out]; rfl, by rw [HRR.out]; exact HD4.out⟩
  · have HE := hid (show blankR s a = (s, checkE s.n a) from if_neg hC)
    obtain ⟨a0, a1, a2⟩ := a
    generalize checkE s.n ⟨a0, a1, a2⟩ = C at HCK HE hC
    generalize blankR s ⟨a0, a1, a2⟩ = RR at HE ⊢
    have hC' : ¬ (C : Int) = 0 := by omega
    unfold arv at HCK ⊢
    dsimp only at HCK ⊢
    have kA := Blk.new w 33 #[.int .i64 a0, .int .i64 a1, .int .i64 a2]
    have bA := below_new w (.cells #[.int .i64 a0, .int .i64 a1, .int .i64 a2] 33)
    have c0 := kA.cell 0 rfl
    have c1 := kA.cell 1 rfl
    have c2 := kA.cell 2 rfl
    have BA := hid bA
    clear kA bA
    go_enter Try.func15, Try.ntmps15
    go_wp2_with fail
    refine (HCK.out _ BA.out).mono ?_
    rintro _ w1 ⟨rfl, hb1⟩
    have BW := hid (BA.out.trans (hb1.mono BA.out.size))
    clear c0 c1 c2 hb1 HCK BA
    go_wp2_with fail
    go_ret
    exact ⟨by rw [HE.out]; rfl, by rw [HE.out]; exact DevAt.start HH.out BW.out⟩
end
end Go.Proofs.Ytiejndkchcljdaa
