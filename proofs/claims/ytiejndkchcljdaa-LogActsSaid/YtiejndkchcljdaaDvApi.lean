/- Contracts: a device's Flush and Crash. -/
import Derived.Test.YtiejndkchcljdaaDvCrash
namespace Go.Proofs.Ytiejndkchcljdaa
open Go.RowKit

def flushE (s : DS) : Nat := if s.out = true then 22 else if lets s = false then 22 else 0
def flushD (s : DS) : DS := if s.out = true then s else if lets s = false then burn s else flushS (burn s)
def crashE (t : Int) : Nat := if 0 ≤ t ∧ t < 64 then 0 else 2
def crashD (s : DS) (keep : List Bool) (t : Int) : DS := if 0 ≤ t ∧ t < 64 then { brokeS s keep t.toNat with fuse := none, out := false } else s
section
variable (base g : Nat) (F : List Nat) (s : DS) (w : World)
set_option maxHeartbeats 1000000 in
theorem dFlush_calls (h : DevB w base F g s) (hk : ∀ k, s.fuse = some k → k < 9223372036854775808) (hlo : s.loose.length ≤ 1000000) :
    Calls Try.prog 20 #[.pointer (some ⟨g, 0, none⟩)] w (DevPost w base F g (flushD s) (.int .i64 (flushE s : Int))) := by
  have HS := hid h
  obtain ⟨a, m, A, c, q, h, hok, hF, hlt⟩ := h
  have HV := hid (state_calls base g a m c A q s w h)
  have HG := hid (goesOn_calls base g a m c A q s w hk h)
  by_cases ho : s.out = true
  · have HK := hid (show DevPost w base F g (flushD s) (.int .i64 (flushE s : Int)) (.returned (.int .i64 22)) w from by
      rw [show flushE s = 22 from if_pos ho, show flushD s = s from if_pos ho]; exact DevPost.same HS.out _)
    rw [if_pos ho] at HV
    clear h ho hok hF hlt HS HG hk hlo
    generalize flushD s = s' at HK ⊢
    generalize flushE s = e' at HK ⊢
    go_enter Try.func20, Try.ntmps20
    go_wp2_with fail
    refine HV.out.mono ?_
    rintro _ _ ⟨rfl, rfl⟩
    go_wp2_with fail
    go_ret
    exact HK.out
  rw [if_neg ho] at HV
  by_cases hl : lets s = false
  · have HF := hid (show ∀ w', DevIn w' base g a m A c q (burn s) → Chg (fpL g a m A q) w w' → DevPost w base F g (burn s) (.int .i64 22) (.returned (.int .i64 22)) w' from fun w' h1 h2 =>
      DevPost.of hF hlt (burn_ok hok) (v := .tuple #[]) (e := .returned (.tuple #[])) ⟨rfl, A, c, q, h1, h2, MovedQ.refl _ _, MovedQ.refl _ _⟩ rfl)
    rw [hl] at HG
    rw [show flushE s = 22 from by unfold flushE; rw [if_neg ho, if_pos hl], show flushD s = burn s from by unfold flushD; rw [if_neg ho, if_pos hl]]
    clear h ho hok hF hlt HS hk hlo hl
    generalize burn s = s' at HF HG ⊢
    go_enter Try.func20, Try.ntmps20
    go_wp2_with fail
    refine HV.out.mono ?_
    rintro _ _ ⟨rfl, rfl⟩
    go_wp2_with fail
    refine HG.out.mono ?_
    rintro _ w1 ⟨rfl, h1, h2⟩
    have HK := hid (HF.out _ h1 h2)
    clear h1 h2
    go_wp2_with fail
    go_ret
    exact HK.out
  · have hl' : lets s = true := by simpa using hl
    have HD := hid (fun w' (h1 : DevIn w' base g a m A c q (burn s)) => dflush_calls base g a m c A q (burn s) w' h1 (burn_ok hok) hlo)
    have HF := hid (show ∀ w' w'', Chg (fpL g a m A q) w w' → InPost w' base g a m A q (flushS (burn s)) (.tuple #[]) (.returned (.tuple #[])) w'' → DevPost w base F g (flushS (burn s)) (.int .i64 0) (.returned (.int .i64 0)) w'' from fun w' w'' h1 h2 =>
      DevPost.of hF hlt (flush_ok (burn_ok hok)) (InPost.trans h1 (MovedQ.refl _ _) (MovedQ.refl _ _) h2) rfl)
    rw [hl'] at HG
    rw [show flushE s = 0 from by unfold flushE; rw [if_neg ho, if_neg hl], show flushD s = flushS (burn s) from by unfold flushD; rw [if_neg ho, if_neg hl]]
    clear h ho hok hF hlt HS hk hlo hl hl'
    generalize flushS (burn s) = s' at HF HD ⊢
    go_enter Try.func20, Try.ntmps20
    go_wp2_with fail
    refine HV.out.mono ?_
    rintro _ _ ⟨rfl, rfl⟩
    go_wp2_with fail
    refine HG.out.mono ?_
    rintro _ w1 ⟨rfl, h1, h2⟩
    have HD2 := hid (HD.out _ h1)
    have HF2 := hid (fun w'' => HF.out w1 w'' h2)
    clear h1 h2 HD HF
    go_wp2_with fail
    refine HD2.out.mono ?_
    rintro _ w2 ⟨rfl, hp⟩
    have HK := hid (HF2.out w2 ⟨rfl, hp⟩)
    clear hp HF2
    go_wp2_with fail
    go_ret
    exact HK.out
set_option maxHeartbeats 2000000 in
theorem dCrash_calls (nk ck : Nat) (Ak : Option Addr) (keep : List Bool) (t : Int) (h : DevB w base F g s) (hlo : s.loose.length ≤ 1000000) (hkb : KB w Ak nk keep) (hne : 0 < nk → ∀ b off, Ak = some ⟨b, off, none⟩ → b ∉ F) (hnk : nk ≤ 1099511627776) :
    Calls Try.prog 22 #[.pointer (some ⟨g, 0, none⟩), .slice Ak nk ck, .int .i64 t] w (DevPost w base F g (crashD s keep t) (.int .i64 (crashE t : Int))) := by
  have HS := hid h
  obtain ⟨a, m, A, c, q, h, hok, hF, hlt⟩ := h
  have HV := hid (valid_calls base g a m c A q s w h)
  by_cases ht : 0 ≤ t ∧ t < 64
  · obtain ⟨u, rfl⟩ : ∃ u : Nat, t = (u : Int) := ⟨t.toNat, by omega⟩
    have hu : u < 64 := by omega
    have HD := hid (dcrash_calls base g a m c A q s w nk ck Ak keep u h hok hlo hkb (fun hn b off e hb => hne hn b off e (hF b (.inr (.inr (.inl hb))))) hnk hu)
    have e1 : ¬ (u : Int) < 0 := by omega
    have e2 : ¬ (64 : Int) ≤ (u : Int) := by omega
    have HF := hid (show ∀ w', InPost w base g a m A q (brokeS s keep u) (.tuple #[]) (.returned (.tuple #[])) w' → ∃ W : World, (∃ v5 v6 : Value, w'.cell? ⟨g, 4, none⟩ = some v5 ∧ w'.frozen? ⟨g, 4, none⟩ = false ∧ w'.cell? ⟨g, 5, none⟩ = some v6 ∧ w'.frozen? ⟨g, 5, none⟩ = false) ∧ W = (w'.setCell ⟨g, 4, none⟩ (fnv none)).setCell ⟨g, 5, none⟩ (.bool false) ∧ DevPost w base F g (crashD s keep u) (.int .i64 (crashE u : Int)) (.returned (.int .i64 0)) W from by
      rintro w' ⟨-, A', c', q', h1, h2, h3, h4⟩
      refine ⟨_, ⟨_, _, h1.hd.cell 4 rfl, h1.hd.frozen 4, h1.hd.cell 5 rfl, h1.hd.frozen 5⟩, rfl, ?_⟩
      rw [show crashE u = 0 from if_pos ht, show crashD s keep u = { brokeS s keep u with fuse := none, out := false } from by unfold crashD; rw [if_pos ht, Int.toNat_natCast]]
      have hbo := broke_ok hok keep (Nat.le_of_lt hu)
      refine DevPost.of hF hlt ⟨hbo.n1, hbo.n2, hbo.nb, hbo.lo⟩ (v := .tuple #[]) (e := .returned (.tuple #[])) ⟨rfl, A', c', none, (h1.set4 (q' := none) (fuse := none) trivial (fun _ _ h => by cases h) (fun _ h => by cases h)).set5 false, ?_, h3, .inr (fun f hf => by cases hf)⟩ rfl
      exact (h2.trans (chg_set (L := fpL g a m A q) (by simp [fpL]) 4 _) (fun b hb => .inl hb)).trans (chg_set (by simp [fpL]) 5 _) (fun b hb => .inl hb))
    clear h hok hF hlt HS hlo hkb hne ht
    generalize brokeS s keep u = s2 at HD HF
    generalize crashD s keep u = s' at HF ⊢
    generalize crashE u = e' at HF ⊢
    go_enter Try.func22, Try.ntmps22
    go_wp2_with fail
    refine HV.out.mono ?_
    rintro _ _ ⟨rfl, rfl⟩
    go_wp2_with fail
    refine HD.out.mono ?_
    rintro _ w2 ⟨rfl, hp⟩
    obtain ⟨W, ⟨v5, v6, c4, f4, c5, f5⟩, hW, hK⟩ := HF.out w2 ⟨rfl, hp⟩
    have HW := hid hW; have HK := hid hK
    clear hp HF hW hK HD
    simp only [fnv] at HW
    go_wp2_with fail
    go_ret
    rw [← HW.out]
    exact HK.out
  · have HK := hid (show DevPost w base F g (crashD s keep t) (.int .i64 (crashE t : Int)) (.returned (.int .i64 2)) w from by
      rw [show crashE t = 2 from if_neg ht, show crashD s keep t = s from if_neg ht]; exact DevPost.same HS.out _)
    clear h hok hF hlt HS hlo hkb hne
    generalize crashD s keep t = s' at HK ⊢
    generalize crashE t = e' at HK ⊢
    by_cases h0 : t < 0
    · go_enter Try.func22, Try.ntmps22
      go_wp2_with fail
      refine HV.out.mono ?_
      rintro _ _ ⟨rfl, rfl⟩
      go_wp2_with fail
      go_ret
      exact HK.out
    · have h1 : (64 : Int) ≤ t := by omega
      clear ht
      go_enter Try.func22, Try.ntmps22
      go_wp2_with fail
      refine HV.out.mono ?_
      rintro _ _ ⟨rfl, rfl⟩
      go_wp2_with fail
      go_ret
      exact HK.out
end
end Go.Proofs.Ytiejndkchcljdaa
