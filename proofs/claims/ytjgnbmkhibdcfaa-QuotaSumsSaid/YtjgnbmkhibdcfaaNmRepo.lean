/- Contracts: the machine of names of repositories, whole. -/
import Derived.Test.YtjgnbmkhibdcfaaNmChar
namespace Go.Proofs.Ytjgnbmkhibdcfaa
open Go.RowKit
attribute [local go_sem] eql_func eql_none run_mkF

def GoesV (g : Nat) (w : World) (r : Option (FuncId × Nat)) (e : Ending) (w' : World) : Prop := (∃ v, e = .returned v) ∧ Goes g w r e w'
theorem rpcells_next (g p : Nat) : (rpcells g p).setIfInBounds 3 (.int .i64 ((p + 1 : Nat) : Int)) = rpcells g (p + 1) := rfl
theorem part_calls (g p : Nat) (hp : p ≤ 8) (w : World) (hb : Blk w g 115 (rpcells g p)) :
    Calls Try.prog 93 #[.pointer (some ⟨g, 0, none⟩)] w (GoesV g w (if p = 8 then none else some (BG, p + 1))) := by
  have c3 := hb.cell 3 (show (rpcells g p)[3]? = some (.int .i64 (p : Int)) from rfl)
  have f3 := hb.frozen 3
  by_cases h : p = 8
  · subst h
    clear hb
    go_enter Try.func93, Try.ntmps93
    go_wp2_with fail
    go_ret
    exact ⟨⟨_, rfl⟩, World.grownBy.refl _ _, rfl⟩
  · have q : ((p : Int) == 8) = false := beq_eq_false_iff_ne.2 (by omega)
    have hp2 : (p : Int) ≤ 8 := by omega
    have k2 := hb.set_ 3 (.int .i64 ((p + 1 : Nat) : Int))
    rw [rpcells_next] at k2
    rw [if_neg h]
    have gx := grown_setCell w g 3 (.int .i64 ((p + 1 : Nat) : Int))
    have hc : ((p + 1 : Nat) : Int) = (p : Int) + 1 := by omega
    rw [hc] at k2 gx
    have K2 := hid k2; have GX := hid gx
    clear hb h k2 gx hc
    go_enter Try.func93, Try.ntmps93
    go_wp2_with fail
    go_ret
    exact ⟨⟨_, rfl⟩, GX.out, rfl, K2.out⟩
theorem aw_goes (g p : Nat) (hp : p ≤ 8) (c : Int) (hw : inW c = false) (w : World) (hb : Blk w g 115 (rpcells g p)) :
    Calls Try.prog 76 #[.pointer (some ⟨g, 0, none⟩), .int .i32 c] w (GoesV g w (rstep IN p c)) := by
  have HB := hid hb
  by_cases h1 : c = 46
  · subst h1
    clear hb hw
    go_enter Try.func76, Try.ntmps76
    go_wp2_with fail
    go_ret
    exact ⟨⟨_, rfl⟩, World.grownBy.refl _ _, rfl, HB.out⟩
  · have q1 : (c == 46) = false := beq_eq_false_iff_ne.2 h1
    by_cases h2 : c = 95
    · subst h2
      clear hb hw h1
      go_enter Try.func76, Try.ntmps76
      go_wp2_with fail
      go_ret
      exact ⟨⟨_, rfl⟩, World.grownBy.refl _ _, rfl, HB.out⟩
    · have q2 : (c == 95) = false := beq_eq_false_iff_ne.2 h2
      by_cases h3 : c = 45
      · subst h3
        clear hb hw h1 h2
        go_enter Try.func76, Try.ntmps76
        go_wp2_with fail
        go_ret
        exact ⟨⟨_, rfl⟩, World.grownBy.refl _ _, rfl, HB.out⟩
      · have q3 : (c == 45) = false := beq_eq_false_iff_ne.2 h3
        by_cases h4 : c = 47
        · subst h4
          have HP := hid (part_calls g p hp w hb)
          have HR := hid (show rstep IN p 47 = (if p = 8 then none else some (BG, p + 1)) from rfl)
          clear hb hw h1 h2 h3
          go_enter Try.func76, Try.ntmps76
          go_wp2_with fail
          refine HP.out.mono ?_
          rintro e w2 ⟨⟨v, rfl⟩, hg⟩
          have HG := hid (show GoesV g w (rstep IN p 47) (.returned v) w2 by rw [HR.out]; exact ⟨⟨v, rfl⟩, hg⟩)
          clear hg
          go_wp2_with fail
          go_ret
          exact HG.out
        · have q4 : (c == 47) = false := beq_eq_false_iff_ne.2 h4
          have HE := hid (ends_calls c w)
          have hr : rstep IN p c = if c = -1 then some (EN, p) else none := by unfold rstep; simp [hw, h1, h2, h3, h4, BG, IN]
          have HR := hid hr
          cases he : (c == -1) with
          | true =>
            have hc := eq_of_beq he
            rw [he] at HE
            have HC := hid hc
            clear hb hw h1 h2 h3 h4 hr he hc
            go_enter Try.func76, Try.ntmps76
            go_wp2_with fail
            refine HE.out.mono ?_
            rintro e w2 ⟨rfl, b⟩
            have HG := hid (show GoesV g w (rstep IN p c) (.returned (pick true (.func (.func 94) #[] #[]))) w2 by
              rw [HR.out, if_pos HC.out]; exact ⟨⟨_, rfl⟩, grown_of_below b _, rfl, HB.out.keep b⟩)
            clear b
            go_wp2_with fail
            go_ret
            exact HG.out
          | false =>
            have hc := beq_eq_false_iff_ne.1 he
            rw [he] at HE
            have HC := hid hc
            clear hb hw h1 h2 h3 h4 hr he hc
            go_enter Try.func76, Try.ntmps76
            go_wp2_with fail
            refine HE.out.mono ?_
            rintro e w2 ⟨rfl, b⟩
            have HG := hid (show GoesV g w (rstep IN p c) (.returned (pick false (.func (.func 94) #[] #[]))) w2 by
              rw [HR.out, if_neg HC.out]; exact ⟨⟨_, rfl⟩, grown_of_below b _, rfl⟩)
            clear b
            go_wp2_with fail
            go_ret
            exact HG.out
theorem in_goes (g p : Nat) (hp : p ≤ 8) (c : Int) (w : World) (hb : Blk w g 115 (rpcells g p)) :
    Calls Try.prog IN (ptr g ++ #[.int .i32 c]) w (Goes g w (rstep IN p c)) := by
  cases hw : inW c with
  | true =>
    have hr : rstep IN p c = some (IN, p) := by unfold rstep; simp [hw, BG, IN]
    rw [hr]
    refine (inside_more g 115 _ _ _ _ c w inWord_enters (fun w => by have := inWord_calls c w; rwa [hw] at this) hb).mono ?_
    rintro e w' ⟨rfl, b⟩
    exact ⟨grown_of_below b _, rfl, hb.keep b⟩
  | false =>
    refine inside_less g 115 _ _ _ (ptr g) _ c w _ inWord_enters (fun w => by have := inWord_calls c w; rwa [hw] at this) hb afterWord_enters (fun w1 b1 => ?_)
    refine (aw_goes g p hp c hw w1 (hb.keep b1)).mono ?_
    rintro e w' ⟨hv, gx, hm⟩
    exact ⟨hv, (grown_of_below b1 _).trans gx, hm⟩
/-- every state goes as the step says -/
theorem repo_goes (g p : Nat) (hp : p ≤ 8) (k : FuncId) (hk : k = BG ∨ k = IN ∨ k = LN ∨ k = DS) (c : Int) (w : World) (hb : Blk w g 115 (rpcells g p)) :
    Enters' k ∧ Calls Try.prog k (ptr g ++ #[.int .i32 c]) w (Goes g w (rstep k p c)) := by
  rcases hk with rfl | rfl | rfl | rfl
  · exact ⟨enters_of Try.func68 (by kernel_rfl) rfl, bg_goes g p c w hb⟩
  · exact ⟨enters_of Try.func78 (by kernel_rfl) rfl, in_goes g p hp c w hb⟩
  · exact ⟨enters_of Try.func91 (by kernel_rfl) rfl, ln_goes g p c w hb⟩
  · exact ⟨enters_of Try.func92 (by kernel_rfl) rfl, ds_goes g p c w hb⟩
end Go.Proofs.Ytjgnbmkhibdcfaa
