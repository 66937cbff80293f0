/- Contracts: a reader of the plain reference: fail, Rest. -/
import Derived.Test.YtcpkjpeimnaimaaWrReader
import Derived.Test.YtcpkjpeimnaimaaWrPart
import Derived.Test.YtcpkjpeimnaimaaWrOwnR2
namespace Go.Proofs.Ytcpkjpeimnaimaa
open Go.RowKit

/-- Block g is a reader of the plain reference, of the bytes bs that lie below block B; a is its place. -/
def RrB (w : World) (g B n c : Nat) (A : Option Addr) (bs : List UInt8) (a : Nat) (s : RS) : Prop :=
  Blk w g 63 #[.slice A n c, .int .i64 (a : Int), .int .i64 (s.err : Int), .int .i64 (s.fat : Int)] ∧ SB w B A n bs ∧ B ≤ g ∧ a ≤ n ∧ n ≤ 549755813888 ∧ s.good n ∧ (∀ a', s = .ok a' → a = a')
section
variable {w w' : World} {g B n c : Nat} {A : Option Addr} {bs : List UInt8} {a : Nat} {s : RS} {L : List Nat}
theorem RrB.chg (h : RrB w g B n c A bs a s) (hc : Chg L w w') (hg : g ∉ L) (hd : ∀ b, b < B → b ∉ L) : RrB w' g B n c A bs a s :=
  ⟨h.1.chg hc hg, h.2.1.chg hc (fun b _ _ hb => hd b hb), h.2.2⟩
theorem RrB.keep (h : RrB w g B n c A bs a s) (hb : Below w.heap.size w w') : RrB w' g B n c A bs a s := h.chg (L := []) (Chg.of_below hb) (by simp) (by simp)
theorem RrB.drew (h : RrB w g B n c A bs a s) : RrB w.drew g B n c A bs a s := h
end
theorem refRest_calls (g B n c : Nat) (A : Option Addr) (bs : List UInt8) (a : Nat) (s : RS) (w : World) (h : RrB w g B n c A bs a s) :
    Calls Try.prog 52 #[.pointer (some ⟨g, 0, none⟩)] w fun e w' => e = .returned (.int .i64 (restS bs s : Int)) ∧ Below w.heap.size w w' := by
  obtain ⟨hb, hs, hB, ha, hn, hg, hok⟩ := h
  have d0 : w.cell? ⟨g, 0, none⟩ = some (.slice A n c) := hb.cell 0 rfl
  have d1 : w.cell? ⟨g, 1, none⟩ = some (.int .i64 (a : Int)) := hb.cell 1 rfl
  have d2 : w.cell? ⟨g, 2, none⟩ = some (.int .i64 (s.err : Int)) := hb.cell 2 rfl
  cases s with
  | ok a' =>
    obtain rfl := hok a' rfl
    replace d2 : w.cell? ⟨g, 2, none⟩ = some (.int .i64 0) := d2
    have HL := hid hs.1
    clear hb hs hok hg
    go_enter Try.func52, Try.ntmps52
    go_wp2_with fail
    go_region
    go_wp2_with fail
    go_ret
    refine ⟨?_, (Below.refl _ _).drew⟩
    rw [show restS bs (.ok a) = bs.length - a from rfl, HL.out]
    have : ((n - a : Nat) : Int) = (n : Int) - (a : Int) := by omega
    rw [this]
    rfl
  | bad e p =>
    replace d2 : w.cell? ⟨g, 2, none⟩ = some (.int .i64 (e : Int)) := d2
    have he : ¬ (e : Int) = 0 := by have := hg.1; omega
    clear hb hs hok hg
    go_enter Try.func52, Try.ntmps52
    go_wp2_with fail
    go_ret
    exact ⟨rfl, Below.refl _ _⟩
set_option maxRecDepth 20000 in
theorem refFail_calls (g B n c : Nat) (A : Option Addr) (bs : List UInt8) (a : Nat) (s : RS) (e p : Nat) (w : World) (h : RrB w g B n c A bs a s) (he : e ≠ 0) (hp : p ≤ n) :
    Calls Try.prog 66 #[.pointer (some ⟨g, 0, none⟩), .int .i64 (e : Int), .int .i64 (p : Int)] w fun en w' => en = .returned (.tuple #[]) ∧ RrB w' g B n c A bs a (if s.err = 0 then .bad e p else s) ∧ Chg [g] w w' := by
  have HH := hid h
  obtain ⟨hb, hs, hB, ha, hn, hg, hok⟩ := h
  have d2 : w.cell? ⟨g, 2, none⟩ = some (.int .i64 (s.err : Int)) := hb.cell 2 rfl
  by_cases h0 : s.err = 0
  · rw [h0] at d2
    have HB := hid (show Blk w g 63 (part [.slice A n c, .int .i64 (a : Int)] [.int .i64 (s.err : Int), .int .i64 (s.fat : Int)] []) from hb)
    have HSZ := hid (show (Try.prog.info? 61).map (·.size) = some ([Value.int .i64 (e : Int), Value.int .i64 (p : Int)]).length from by kernel_rfl)
    have HK := hid (show RrB (w.setRow g (part [.slice A n c, .int .i64 (a : Int)] [.int .i64 (e : Int), .int .i64 (p : Int)] [])) g B n c A bs a (if s.err = 0 then .bad e p else s) ∧ Chg [g] w (w.setRow g (part [.slice A n c, .int .i64 (a : Int)] [.int .i64 (e : Int), .int .i64 (p : Int)] [])) from by
      rw [if_pos h0]
      have kc : Chg [g] w (w.setRow g (part [.slice A n c, .int .i64 (a : Int)] [.int .i64 (e : Int), .int .i64 (p : Int)] [])) := Chg.of_grown (grown_setRow w g _) (fun x e => by cases e; simp)
      exact ⟨⟨hb.setRow _, hs.chg kc (fun b _ _ hlt hm => by simp at hm; omega), hB, ha, hn, ⟨he, hp⟩, fun a' e => by cases e⟩, kc⟩)
    clear hb hs hok hg
    generalize (if s.err = 0 then RS.bad e p else s) = s' at HK ⊢
    go_enter Try.func66, Try.ntmps66
    go_wp2_with (refine wpList_store_part rfl 61 _ _ rfl g 2 [.int .i64 (e : Int), .int .i64 (p : Int)] rfl rfl HB.out rfl HSZ.out rfl (by simp [Value.oneCell']) ?_)
    go_end0
    exact ⟨rfl, HK.out⟩
  · have HK := hid (show RrB w g B n c A bs a (if s.err = 0 then .bad e p else s) from by rw [if_neg h0]; exact HH.out)
    have h0' : ¬ (s.err : Int) = 0 := by omega
    clear hb hs hok hg
    generalize (if s.err = 0 then RS.bad e p else s) = s' at HK ⊢
    go_enter Try.func66, Try.ntmps66
    go_wp2_with fail
    go_end0
    exact ⟨rfl, HK.out, Chg.refl _ _⟩
set_option maxRecDepth 20000 in
theorem refEnd_calls (g B n c : Nat) (A : Option Addr) (bs : List UInt8) (a : Nat) (s : RS) (w : World) (h : RrB w g B n c A bs a s) :
    Calls Try.prog 54 #[.pointer (some ⟨g, 0, none⟩)] w fun e w' => e = .returned (.agg #[.int .i64 ((endS bs s).1 : Int), .int .i64 ((endS bs s).2 : Int)]) ∧ Below w.heap.size w w' := by
  have b1 := below_new w (.cells #[.int .i64 0, .int .i64 0] 61)
  have k1 := Blk.new w 61 #[.int .i64 0, .int .i64 0]
  have h1 := h.keep b1
  obtain ⟨hb, hs, hB, ha, hn, hg, hok⟩ := h1
  have HSL := hid hs.1
  have FIN := hid (show ∀ x y : Int, Blk (((w.alloc (.cells #[.int .i64 0, .int .i64 0] 61)).drew).setRow w.heap.size (part [] [.int .i64 x, .int .i64 y] [])) w.heap.size 61 (part [] [.int .i64 x, .int .i64 y] []) ∧ Below w.heap.size w (((w.alloc (.cells #[.int .i64 0, .int .i64 0] 61)).drew).setRow w.heap.size (part [] [.int .i64 x, .int .i64 y] [])) from fun x y =>
    ⟨Blk.setRow (w := (w.alloc (.cells #[.int .i64 0, .int .i64 0] 61)).drew) k1 _, b1.drew.trans (below_of_grown (grown_setRow _ _ _) b1.size (fun g e => by cases e; exact Nat.le_refl _))⟩)
  have HV := hid (show Blk (w.alloc (.cells #[.int .i64 0, .int .i64 0] 61)).drew w.heap.size 61 (part [] [.int .i64 0, .int .i64 0] []) from k1)
  have HB := hid (show Blk (w.alloc (.cells #[.int .i64 0, .int .i64 0] 61)).drew g 63 (part [.slice A n c, .int .i64 (a : Int)] [.int .i64 (s.err : Int), .int .i64 (s.fat : Int)] []) from hb)
  have SZ := hid (fun x y : Int => (show (Try.prog.info? 61).map (·.size) = some ([Value.int .i64 x, Value.int .i64 y]).length from by kernel_rfl))
  have d0 : (w.alloc (.cells #[.int .i64 0, .int .i64 0] 61)).cell? ⟨g, 0, none⟩ = some (.slice A n c) := hb.cell 0 rfl
  have d1 : (w.alloc (.cells #[.int .i64 0, .int .i64 0] 61)).cell? ⟨g, 1, none⟩ = some (.int .i64 (a : Int)) := hb.cell 1 rfl
  have d2 : (w.alloc (.cells #[.int .i64 0, .int .i64 0] 61)).cell? ⟨g, 2, none⟩ = some (.int .i64 (s.err : Int)) := hb.cell 2 rfl
  have HE := hid (show (s.err = 0 → s = .ok a ∧ s.fat = 0) from fun h0 => by
    obtain ⟨a', rfl, _⟩ := good_err hg h0
    rw [hok a' rfl]; exact ⟨rfl, rfl⟩)
  have HBAD := hid (show (s.err ≠ 0 → endS bs s = (s.err, s.fat)) from fun h0 => by
    cases s with
    | ok a' => exact absurd rfl h0
    | bad e p => rfl)
  clear hb hs hok hg b1 k1 h
  by_cases h0 : s.err = 0
  · obtain ⟨rfl, -⟩ := HE.out h0
    by_cases hlt : a < n
    · have q1 : (a : Int) < (n : Int) := by omega
      have HQ := hid (show endS bs (.ok a) = (4, a) from if_pos (by rw [HSL.out]; exact hlt))
      replace d2 : (w.alloc (.cells #[.int .i64 0, .int .i64 0] 61)).cell? ⟨g, 2, none⟩ = some (.int .i64 0) := d2
      clear h0
      go_enter Try.func54, Try.ntmps54
      go_wp2_with fail
      go_region
      go_wp2_with (refine wpList_store_part rfl 61 _ _ rfl w.heap.size 0 [.int .i64 4, .int .i64 (a : Int)] rfl rfl HV.out rfl (SZ.out _ _) rfl (by simp [Value.oneCell']) ?_)
      refine bodyPost_ret (v := .agg #[.int .i64 4, .int .i64 (a : Int)]) (results_cell_row rfl _ _ w.heap.size 61 _ (0, 0) _ rfl (FIN.out 4 (a : Int)).1 Try.underlying61 rfl (size_fault _ rfl)) rfl ⟨by rw [HQ.out]; rfl, (FIN.out _ _).2⟩
    · have q1 : ¬ (a : Int) < (n : Int) := by omega
      have HQ := hid (show endS bs (.ok a) = (0, 0) from if_neg (by rw [HSL.out]; exact hlt))
      have HB2 := hid (show Blk (w.alloc (.cells #[.int .i64 0, .int .i64 0] 61)).drew g 63 (part [.slice A n c, .int .i64 (a : Int)] [.int .i64 0, .int .i64 0] []) from HB.out)
      replace d2 : (w.alloc (.cells #[.int .i64 0, .int .i64 0] 61)).cell? ⟨g, 2, none⟩ = some (.int .i64 0) := d2
      clear h0
      go_enter Try.func54, Try.ntmps54
      go_wp2_with fail
      go_region
      go_wp2_with (first | (refine wpList_load_part rfl 61 _ rfl g 2 rfl HB2.out rfl Try.underlying61 rfl (SZ.out 0 0) ?_) | (refine wpList_store_part rfl 61 _ _ rfl w.heap.size 0 [.int .i64 0, .int .i64 0] rfl rfl HV.out rfl (SZ.out _ _) rfl (by simp [Value.oneCell']) ?_))
      refine bodyPost_ret (v := .agg #[.int .i64 0, .int .i64 0]) (results_cell_row rfl _ _ w.heap.size 61 _ (0, 0) _ rfl (FIN.out 0 0).1 Try.underlying61 rfl (size_fault _ rfl)) rfl ⟨by rw [HQ.out]; rfl, (FIN.out _ _).2⟩
  · have HQ := hid (HBAD.out h0)
    have q0 : ¬ (s.err : Int) = 0 := by omega
    have HB2 := hid HB.out
    have q2 : ¬ s.err = 0 := h0
    have q3 : ((s.err : Int) == 0) = false := by simpa using h0
    clear h0
    generalize s.err = x at d2 q0 q2 q3 HQ HB2 ⊢
    generalize s.fat = y at HQ HB2 ⊢
    go_enter Try.func54, Try.ntmps54
    go_wp2_with fail
    go_region
    go_wp2_with (first | (refine wpList_load_part rfl 61 _ rfl g 2 rfl HB2.out rfl Try.underlying61 rfl (SZ.out (x : Int) (y : Int)) ?_) | (refine wpList_store_part rfl 61 _ _ rfl w.heap.size 0 [.int .i64 (x : Int), .int .i64 (y : Int)] rfl rfl HV.out rfl (SZ.out _ _) rfl (by simp [Value.oneCell']) ?_))
    refine bodyPost_ret (v := .agg #[.int .i64 (x : Int), .int .i64 (y : Int)]) (results_cell_row rfl _ _ w.heap.size 61 _ (0, 0) _ rfl (FIN.out (x : Int) (y : Int)).1 Try.underlying61 rfl (size_fault _ rfl)) rfl ⟨by rw [HQ.out], (FIN.out _ _).2⟩
end Go.Proofs.Ytcpkjpeimnaimaa
/- Contract: a reader of the plain reference: Num, where no number of several bytes is read. -/
namespace Go.Proofs.Ytcpkjpeimnaimaa
open Go.RowKit
section
variable (g B n c : Nat) (A : Option Addr) (bs : List UInt8) (a : Nat) (w : World)
/-- what a call that reads leaves -/
def RnPost (v : Value) (a' : Nat) (s' : RS) (e : Ending) (w' : World) : Prop := e = .returned v ∧ RrB w' g B n c A bs a' s' ∧ Chg [g] w w'
theorem refRNum_bad (e p : Nat) (h : RrB w g B n c A bs a (.bad e p)) :
    Calls Try.prog 37 #[.pointer (some ⟨g, 0, none⟩)] w (RnPost g B n c A bs w (.int .i64 0) a (.bad e p)) := by
  have HH := hid h
  obtain ⟨hb, hs, hB, ha, hn, hg, hok⟩ := h
  have d1 : w.cell? ⟨g, 1, none⟩ = some (.int .i64 (a : Int)) := hb.cell 1 rfl
  have d2 : w.cell? ⟨g, 2, none⟩ = some (.int .i64 (e : Int)) := hb.cell 2 rfl
  have he : ¬ (e : Int) = 0 := by have := hg.1; omega
  clear hb hs hok hg
  go_enter Try.func37, Try.ntmps37
  go_wp2_with fail
  go_ret
  exact ⟨rfl, HH.out, Chg.refl _ _⟩
theorem refRNum_end (hna : n ≤ a) (h : RrB w g B n c A bs a (.ok a)) :
    Calls Try.prog 37 #[.pointer (some ⟨g, 0, none⟩)] w (RnPost g B n c A bs w (.int .i64 0) a (.bad 6 a)) := by
  have HF := hid (refFail_calls g B n c A bs a (.ok a) 6 a w h (by omega) h.2.2.2.1)
  obtain ⟨hb, hs, hB, ha, hn, hg, hok⟩ := h
  have d0 : w.cell? ⟨g, 0, none⟩ = some (.slice A n c) := hb.cell 0 rfl
  have d1 : w.cell? ⟨g, 1, none⟩ = some (.int .i64 (a : Int)) := hb.cell 1 rfl
  have d2 : w.cell? ⟨g, 2, none⟩ = some (.int .i64 0) := hb.cell 2 rfl
  have q0 : (n : Int) ≤ (a : Int) := by omega
  clear hb hs hok hg
  go_enter Try.func37, Try.ntmps37
  go_wp2_with fail
  refine HF.out.mono ?_
  rintro _ w1 ⟨rfl, h1, k1⟩
  have HK := hid (And.intro h1 k1)
  clear h1 k1
  go_wp2_with fail
  go_ret
  exact ⟨rfl, HK.out.1, HK.out.2⟩
theorem refRNum_small (x : UInt8) (hx : bs[a]? = some x) (hx2 : x.toNat < 192) (h : RrB w g B n c A bs a (.ok a)) :
    Calls Try.prog 37 #[.pointer (some ⟨g, 0, none⟩)] w (RnPost g B n c A bs w (.int .i64 (x.toNat : Int)) (a + 1) (.ok (a + 1))) := by
  obtain ⟨hb, hs, hB, ha, hn, hg, hok⟩ := h
  have hlt : a < n := by rw [← hs.1]; exact (List.getElem?_eq_some_iff.1 hx).1
  obtain ⟨b, off, rfl, hbB, hc⟩ := hs.2 (by omega)
  have cx := hc a x hx
  have d0 : w.cell? ⟨g, 0, none⟩ = some (.slice (some ⟨b, off, none⟩) n c) := hb.cell 0 rfl
  have d1 : w.cell? ⟨g, 1, none⟩ = some (.int .i64 (a : Int)) := hb.cell 1 rfl
  have d2 : w.cell? ⟨g, 2, none⟩ = some (.int .i64 0) := hb.cell 2 rfl
  have f1 := hb.frozen 1
  have q0 : ¬ (n : Int) ≤ (a : Int) := by omega
  have q1 : (x.toNat : Int) < 192 := by omega
  have q2 : (a : Int) < (n : Int) := by omega
  have kc : Chg [g] w (w.setCell ⟨g, 1, none⟩ (.int .i64 ((a : Int) + 1))) := chg_set (by simp) 1 _
  have HK := hid (show RrB (w.setCell ⟨g, 1, none⟩ (.int .i64 ((a : Int) + 1))) g B n c (some ⟨b, off, none⟩) bs (a + 1) (.ok (a + 1)) ∧ Chg [g] w (w.setCell ⟨g, 1, none⟩ (.int .i64 ((a : Int) + 1))) from
    ⟨⟨hb.set_ 1 _, hs.chg kc (fun y _ e hlt hm => by simp at hm; omega), hB, by omega, hn, show a + 1 ≤ n by omega, fun a' e => by cases e; rfl⟩, kc⟩)
  clear hb hs hok hg hc kc hx
  unfold bv at cx
  go_enter Try.func37, Try.ntmps37
  go_wp2_with fail
  go_ret
  exact ⟨rfl, HK.out.1, HK.out.2⟩
theorem refRNum_form (x : UInt8) (hx : bs[a]? = some x) (hx2 : 199 < x.toNat) (h : RrB w g B n c A bs a (.ok a)) :
    Calls Try.prog 37 #[.pointer (some ⟨g, 0, none⟩)] w (RnPost g B n c A bs w (.int .i64 0) a (.bad 5 a)) := by
  have HF := hid (refFail_calls g B n c A bs a (.ok a) 5 a w h (by omega) h.2.2.2.1)
  obtain ⟨hb, hs, hB, ha, hn, hg, hok⟩ := h
  have hlt : a < n := by rw [← hs.1]; exact (List.getElem?_eq_some_iff.1 hx).1
  obtain ⟨b, off, rfl, hbB, hc⟩ := hs.2 (by omega)
  have cx := hc a x hx
  have d0 : w.cell? ⟨g, 0, none⟩ = some (.slice (some ⟨b, off, none⟩) n c) := hb.cell 0 rfl
  have d1 : w.cell? ⟨g, 1, none⟩ = some (.int .i64 (a : Int)) := hb.cell 1 rfl
  have d2 : w.cell? ⟨g, 2, none⟩ = some (.int .i64 0) := hb.cell 2 rfl
  have q0 : ¬ (n : Int) ≤ (a : Int) := by omega
  have q2 : (a : Int) < (n : Int) := by omega
  have q1 : ¬ (x.toNat : Int) < 192 := by omega
  have q3 : (199 : Int) < (x.toNat : Int) := by omega
  have q5 := x.toNat_lt
  clear hb hs hok hg hc hx
  unfold bv at cx
  generalize x.toNat = y at *
  go_enter Try.func37, Try.ntmps37
  go_wp2_with fail
  refine HF.out.mono ?_
  rintro _ w1 ⟨rfl, h1, k1⟩
  have HK := hid (And.intro h1 k1)
  clear h1 k1
  go_wp2_with fail
  go_ret
  exact ⟨rfl, HK.out.1, HK.out.2⟩
theorem refRNum_short (x : UInt8) (hx : bs[a]? = some x) (hx2 : 192 ≤ x.toNat) (hx3 : x.toNat ≤ 199) (hx4 : n - a - 1 < x.toNat - 191) (h : RrB w g B n c A bs a (.ok a)) :
    Calls Try.prog 37 #[.pointer (some ⟨g, 0, none⟩)] w (RnPost g B n c A bs w (.int .i64 0) a (.bad 6 a)) := by
  have HF := hid (refFail_calls g B n c A bs a (.ok a) 6 a w h (by omega) h.2.2.2.1)
  obtain ⟨hb, hs, hB, ha, hn, hg, hok⟩ := h
  have hlt : a < n := by rw [← hs.1]; exact (List.getElem?_eq_some_iff.1 hx).1
  obtain ⟨b, off, rfl, hbB, hc⟩ := hs.2 (by omega)
  have cx := hc a x hx
  have d0 : w.cell? ⟨g, 0, none⟩ = some (.slice (some ⟨b, off, none⟩) n c) := hb.cell 0 rfl
  have d1 : w.cell? ⟨g, 1, none⟩ = some (.int .i64 (a : Int)) := hb.cell 1 rfl
  have d2 : w.cell? ⟨g, 2, none⟩ = some (.int .i64 0) := hb.cell 2 rfl
  have q0 : ¬ (n : Int) ≤ (a : Int) := by omega
  have q2 : (a : Int) < (n : Int) := by omega
  have q1 : ¬ (x.toNat : Int) < 192 := by omega
  have q3 : ¬ (199 : Int) < (x.toNat : Int) := by omega
  have q4 : (n : Int) - (a : Int) - 1 < (x.toNat : Int) - 191 := by omega
  have q5 := x.toNat_lt
  clear hb hs hok hg hc hx
  unfold bv at cx
  generalize x.toNat = y at *
  go_enter Try.func37, Try.ntmps37
  go_wp2_with fail
  refine HF.out.mono ?_
  rintro _ w1 ⟨rfl, h1, k1⟩
  have HK := hid (And.intro h1 k1)
  clear h1 k1
  go_wp2_with fail
  go_ret
  exact ⟨rfl, HK.out.1, HK.out.2⟩
end
end Go.Proofs.Ytcpkjpeimnaimaa
