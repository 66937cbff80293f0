/- Contracts: the fuse of the plain reference's device; Fuse. -/
import Derived.Test.YtoajnabdflikfaaDvRfA
namespace Go.Proofs.Ytoajnabdflikfaa
open Go.RowKit

section
variable (base g m : Nat) (F : List Nat) (s : DS) (w : World)
theorem i64_pred (z : Int) (h1 : -1000000 ≤ z) (h2 : z ≤ 9223372036854775807) : IntKind.i64.wrap (z - 1) = z - 1 := by
  rw [IntWalk.i64_in] <;> omega
set_option maxRecDepth 20000 in
theorem rThrough_calls {A R : Option Addr} {cA cR : Nat} {vs us : List Value} {D : List Nat} {z : Int} (hm : m ≤ 1000) (ho : s.out = false) (h : RdIn w base g A R cA cR vs us D m z s) :
    Calls Try.prog 51 #[.pointer (some ⟨g, 0, none⟩)] w fun e w' => e = .returned (.bool (lets s)) ∧ ∃ z', RdIn w' base g A R cA cR vs us D (m + 1) z' (burn s) ∧ Chg [g] w w' := by
  have hzl := h.zl
  have hzh := h.zh
  have hhd := h.hd
  have c2 := h.hd.cell 2 rfl
  have c3 := h.hd.cell 3 rfl
  have c4 := h.hd.cell 4 rfl
  have f3 := h.hd.frozen 3
  have f4 := h.hd.frozen 4
  have hzf := h.zf
  have HIN := hid h
  clear h
  rcases hf : s.fuse with _ | k
  · have HFIN := hid (fun w' (hc : Chg [g] w w') (hb : Blk w' g 69 #[.slice A s.n cA, .slice R s.loose.length cR, .bool false, .int .i64 (z - 1), .bool false]) => (show RdIn w' base g A R cA cR vs us D (m + 1) (z - 1) (burn s) from HIN.out.head hc rfl rfl rfl (by rw [show (burn s).fuse = none from by simp [burn, hf], show (burn s).out = false from by simp [burn, hf]]; exact hb) (fun k hk => by simp [burn, hf] at hk) (by omega) (by omega)))
    have HLT := hid (show lets s = true from by unfold lets; rw [hf]; rfl)
    have hp := i64_pred z (by omega) hzh
    rw [hf] at c2
    rw [hf, ho] at hhd
    clear hzf hf HIN
    go_enter Try.func51, Try.ntmps51
    go_wp2_with fail
    go_ret
    exact ⟨by rw [HLT.out]; rfl, _, HFIN.out _ (chg_set (by simp) 3 _) (by simpa using hhd.set_ 3 (.int .i64 (z - 1))), chg_set (by simp) 3 _⟩
  · have hz : z = (k : Int) := hzf k hf
    subst hz
    rw [hf] at c2
    rw [hf, ho] at hhd
    rcases k with _ | k
    · have HFIN := hid (fun w' (hc : Chg [g] w w') (hb : Blk w' g 69 #[.slice A s.n cA, .slice R s.loose.length cR, .bool true, .int .i64 ((0 : Nat) : Int), .bool true]) => (show RdIn w' base g A R cA cR vs us D (m + 1) ((0 : Nat) : Int) (burn s) from HIN.out.head hc rfl rfl rfl (by rw [show (burn s).fuse = some 0 from by simp [burn, hf], show (burn s).out = true from by simp [burn, hf]]; exact hb) (fun k hk => by simp [burn, hf] at hk; subst hk; rfl) (by omega) (by omega)))
      have HLT := hid (show lets s = false from by unfold lets; rw [hf]; rfl)
      clear hzf hf HIN
      go_enter Try.func51, Try.ntmps51
      go_wp2_with fail
      go_ret
      exact ⟨by rw [HLT.out]; rfl, _, HFIN.out _ (chg_set (by simp) 4 _) (by simpa using hhd.set_ 4 (.bool true)), chg_set (by simp) 4 _⟩
    · have HFIN := hid (fun w' (hc : Chg [g] w w') (hb : Blk w' g 69 #[.slice A s.n cA, .slice R s.loose.length cR, .bool true, .int .i64 (((k + 1 : Nat) : Int) - 1), .bool false]) => (show RdIn w' base g A R cA cR vs us D (m + 1) (((k + 1 : Nat) : Int) - 1) (burn s) from HIN.out.head hc rfl rfl rfl (by rw [show (burn s).fuse = some k from by simp [burn, hf], show (burn s).out = false from by simp [burn, hf]]; exact hb) (fun j hk => by simp [burn, hf] at hk; omega) (by omega) (by omega)))
      have HLT := hid (show lets s = true from by unfold lets; rw [hf]; rfl)
      have hp := i64_pred ((k + 1 : Nat) : Int) (by omega) hzh
      have q0 : (((k + 1 : Nat) : Int) == 0) = false := by simp; omega
      clear hzf hf HIN
      generalize ((k + 1 : Nat) : Int) = z at *
      go_enter Try.func51, Try.ntmps51
      go_wp2_with fail
      go_ret
      exact ⟨by rw [HLT.out]; rfl, _, HFIN.out _ (chg_set (by simp) 3 _) (by simpa using hhd.set_ 3 (.int .i64 (z - 1))), chg_set (by simp) 3 _⟩
set_option maxRecDepth 20000 in
theorem rFuse_calls (n : Int) (hn : n ≤ 9223372036854775807) (h : RdB w base F g m s) :
    Calls Try.prog 39 #[.pointer (some ⟨g, 0, none⟩), .int .i64 n] w (RdPost w base F g m (fuseS s n) (.int .i64 (fuseE s n : Int))) := by
  have HS := hid h
  obtain ⟨A, R, cA, cR, vs, us, D, z, h, hok, hsn, hF, hlt⟩ := h
  have c4 := h.hd.cell 4 rfl
  have c2 := h.hd.cell 2 rfl
  have c3 := h.hd.cell 3 rfl
  have f2 := h.hd.frozen 2
  have f3 := h.hd.frozen 3
  have hhd := h.hd
  have HIN := hid h
  clear h
  by_cases ho : s.out = true
  · have HK := hid (show RdPost w base F g m (fuseS s n) (.int .i64 (fuseE s n : Int)) (.returned (.int .i64 22)) w from by
      rw [show fuseE s n = 22 from if_pos ho, show fuseS s n = s from by unfold fuseS; rw [if_neg (by rw [show fuseE s n = 22 from if_pos ho]; decide)]]; exact RdPost.same HS.out (Nat.le_refl _) _)
    rw [ho] at c4
    clear ho HIN HS hhd hok hsn hF hlt
    generalize fuseE s n = e' at HK ⊢
    generalize fuseS s n = s' at HK ⊢
    go_enter Try.func39, Try.ntmps39
    go_wp2_with fail
    go_ret
    exact HK.out
  have ho' : s.out = false := by simpa using ho
  rw [ho'] at c4 hhd
  by_cases hz : n < 0
  · have HK := hid (show RdPost w base F g m (fuseS s n) (.int .i64 (fuseE s n : Int)) (.returned (.int .i64 2)) w from by
      have e : fuseE s n = 2 := by unfold fuseE; rw [if_neg ho, if_pos hz]
      rw [e, show fuseS s n = s from by unfold fuseS; rw [if_neg (by rw [e]; decide)]]; exact RdPost.same HS.out (Nat.le_refl _) _)
    clear ho HIN HS hhd hok hsn hF hlt
    generalize fuseE s n = e' at HK ⊢
    generalize fuseS s n = s' at HK ⊢
    go_enter Try.func39, Try.ntmps39
    go_wp2_with fail
    go_ret
    exact HK.out
  · have e : fuseE s n = 0 := by unfold fuseE; rw [if_neg ho, if_neg hz]
    have HK := hid (show ∀ w', Chg [g] w w' → Blk w' g 69 #[.slice A s.n cA, .slice R s.loose.length cR, .bool true, .int .i64 n, .bool false] → RdPost w base F g m (fuseS s n) (.int .i64 (fuseE s n : Int)) (.returned (.int .i64 0)) w' from fun w' hc hb => by
      rw [e, show fuseS s n = { s with fuse := some n.toNat } from by unfold fuseS; rw [if_pos e]]
      refine RdPost.of hF hlt (HIN.out.head (m' := m) (z' := n) (s' := { s with fuse := some n.toNat }) hc rfl rfl rfl (by rw [ho']; exact hb) (fun k hk => by injection hk with hk; omega) (by omega) hn) ⟨hok.n1, hok.n2, hok.nb, hok.lo⟩ hsn (hc.more (fun b hb => .inl (by rw [List.mem_singleton.1 hb]; exact hF g (.inl rfl)))) (fun b hb => .inl (hF b hb)) _)
    clear ho HIN HS hok hsn hF hlt e
    generalize fuseE s n = e' at HK ⊢
    generalize fuseS s n = s' at HK ⊢
    go_enter Try.func39, Try.ntmps39
    go_wp2_with fail
    go_ret
    exact HK.out _ ((chg_set (L := [g]) (by simp) 2 (.bool true)).trans (chg_set (L := [g]) (by simp) 3 _) (fun b hb => .inl hb)) (by simpa using (hhd.set_ 2 (.bool true)).set_ 3 (.int .i64 n))
end
end Go.Proofs.Ytoajnabdflikfaa
