/- Contract of a law of blob: apart: two unlike blobs of one digest. -/
import Derived.Test.YtoogaapjdlhpbaaDoorBlKnown
namespace Go.Proofs.YtoogaapjdlhpbaaDoor
open Go.RowKit Crc

theorem putE_form (b : BS) (id bs : List UInt8) (h1 : bs.length ≤ 4096) (h2 : digB bs b.width = id) : putE b id bs = (match lookB b.l id with | some x => if (x == bs) then 0 else 9 | none => if decide ((bs.length : Int) ≤ (b.room : Int) - (usedB b.l : Int)) then 0 else 10) := by
  unfold putE putErrs e9 e10
  have e1 : decide ((bs.length : Int) ≤ 4096) = true := decide_eq_true (by omega)
  have e2 : (digB bs b.width == id) = true := by rw [h2]; exact beq_self_eq_true id
  rw [e1, e2]
  cases lookB b.l id with
  | none => simp only [firstE, if_true]; split <;> simp
  | some x => simp only [firstE, if_true]; split <;> simp
theorem put_new {b : BS} {id bs : List UInt8} (h1 : bs.length ≤ 4096) (h2 : digB bs b.width = id) (h3 : lookB b.l id = none) (h4 : usedB b.l + bs.length ≤ b.room) : putI b id bs = true ∧ putE b id bs = 0 ∧ putB b id bs = { b with l := b.l ++ [(id, bs)] } := by
  have he : putE b id bs = 0 := by
    rw [putE_form b id bs h1 h2, h3]
    simp only
    rw [if_pos (decide_eq_true (by omega))]
  exact ⟨by unfold putI; exact decide_eq_true ⟨he, h3⟩, he, if_pos ⟨he, h3⟩⟩
theorem put_other {b : BS} {id bs x : List UInt8} (h1 : bs.length ≤ 4096) (h2 : digB bs b.width = id) (h3 : lookB b.l id = some x) (h4 : x ≠ bs) : putI b id bs = false ∧ putE b id bs = 9 ∧ putB b id bs = b := by
  have he : putE b id bs = 9 := by
    rw [putE_form b id bs h1 h2, h3]
    simp only
    rw [if_neg (by simpa using h4)]
  have hn : ¬ (putE b id bs = 0 ∧ lookB b.l id = none) := fun h => by rw [he] at h; exact absurd h.1 (by decide)
  exact ⟨by unfold putI; exact decide_eq_false hn, he, if_neg hn⟩
section
variable (d one two : List UInt8)
def apB : BS := ⟨1, 100, []⟩
def apB1 : BS := ⟨1, 100, [(d, one)]⟩
theorem look_one : lookB [(d, one)] d = some one := by unfold lookB; simp
theorem drop_one : dropB (apB1 d one) d = apB := by unfold dropB apB1 apB; simp
set_option maxRecDepth 100000 in
set_option maxHeartbeats 4000000 in
theorem apart_calls (h1 : digB one 1 = d) (h2 : digB two 1 = d) (hne : one ≠ two) (hl1 : one.length ≤ 20) (hl2 : two.length ≤ 20) (A1 A2 : Option Addr) (c1 c2 : Nat) (w : World) (hs1 : SB w w.heap.size A1 one.length one) (hs2 : SB w w.heap.size A2 two.length two) (hc1 : one.length ≤ c1) (hc2 : two.length ≤ c2) (hG : Glob w) :
    Calls Tryd.prog 38 #[.agg (bcells d), .slice A1 one.length c1, .slice A2 two.length c2] w fun e w' => e = .returned (.bool true) ∧ Below w.heap.size w w' := by
  have hd : d.length = 32 := by rw [← h1]; exact digB_length _ _
  obtain ⟨p1, p2, p3⟩ := put_new (b := apB) (id := d) (bs := one) (by omega) h1 rfl (by show 0 + one.length ≤ 100; omega)
  obtain ⟨p4, p5, p6⟩ := put_other (b := apB1 d one) (id := d) (bs := two) (by omega) h2 (look_one d one) hne
  obtain ⟨p7, p8, p9⟩ := put_new (b := apB) (id := d) (bs := two) (by omega) h2 rfl (by show 0 + two.length ≤ 100; omega)
  have p3 : putB apB d one = apB1 d one := p3
  have p9 : putB apB d two = apB1 d two := p9
  have HG := hid hG
  have HSZ := hid (show (Tryd.prog.info? 32).map (·.size) = some (bcells d).size from by rw [bcells_size, hd]; kernel_rfl)
  have HO0 := hid (Blk.new w 32 (bcells d)); have HB0 := hid (below_new w (.cells (bcells d) 32))
  have H1 := hid hs1; have H2 := hid hs2
  clear hs1 hs2 hG h1 h2
  go_enter Tryd.func38, Tryd.ntmps38
  go_wp2_with fail
  generalize w.alloc (.cells (bcells d) 32) = w0 at HO0 HB0 ⊢
  generalize hqo : w.heap.size = o at HO0
  refine (new_calls 1 100 w0 (by omega) (by omega) (by omega)).mono ?_
  rintro _ w1 ⟨s, m, F, rfl, q1, q2, q3⟩
  have HS := hid (show LawB w w1 F s m 0 apB _ from ⟨q1, HB0.out.trans (q2.mono HB0.out.size), fun x hx => Nat.le_trans HB0.out.size (q3 x hx)⟩)
  have HBe := hid (show Bes F w1 o d from ⟨fun h => by have := q3 o h; have := HO0.out.lt; omega, HO0.out.keep q2⟩)
  clear q1 q2 q3 HO0 HB0
  have HP := hid (put_calls HS.out.st d hd A1 c1 one (H1.out.keepB HS.out.below).fit hc1 (by omega) (HS.out.glob HG.out) (by omega))
  rw [p1, p2, p3] at HP
  go_wp2_with (refine wpList_load_blk rfl 32 _ rfl o rfl 32 _ HBe.out.2 _ _ Tryd.underlying32 HSZ.out ?_)
  refine HP.out.mono ?_
  rintro _ w2 ⟨rfl, F2, k2, f2, q1, q2, q3, q4⟩
  have HS2 := hid (HS.out.of q1 q3 q4); have HBe2 := hid (HBe.out.chg q3 q4)
  clear q1 q3 q4 HP HS HBe
  have HP := hid (put_calls HS2.out.st d hd A2 c2 two (H2.out.keepB HS2.out.below).fit hc2 (by omega) (HS2.out.glob HG.out) (by omega))
  rw [p4, p5, p6] at HP
  go_wp2_with (refine wpList_load_blk rfl 32 _ rfl o rfl 32 _ HBe2.out.2 _ _ Tryd.underlying32 HSZ.out ?_)
  refine HP.out.mono ?_
  rintro _ w3 ⟨rfl, F3, k3, f3, q1, q5, q3, q4⟩
  have HS3 := hid (HS2.out.of q1 q3 q4); have HBe3 := hid (HBe2.out.chg q3 q4)
  clear q1 q3 q4 HP HS2 HBe2
  have HGe := hid (get_calls HS3.out.st d hd)
  have hlk : lookB (apB1 d one).l d = some one := look_one d one
  rw [hlk] at HGe
  go_wp2_with (refine wpList_load_blk rfl 32 _ rfl o rfl 32 _ HBe3.out.2 _ _ Tryd.underlying32 HSZ.out ?_)
  refine HGe.out.mono ?_
  rintro _ w4 ⟨v, rfl, ho4, b4⟩
  have ho4 : Own w4 w3.heap.size 5 v one.length one := ho4
  obtain ⟨Av, cv, rfl, hcv, hbv⟩ := BesV.of_own (F := F3) ho4 HS3.out.st.lt
  have HS4 := hid (HS3.out.keep b4); have HBe4 := hid (HBe3.out.keep b4)
  have HSame := hid (sameBytes_calls w4.heap.size one.length cv w.heap.size one.length c1 Av A1 one one w4 hbv.1 (H1.out.keepB HS4.out.below))
  rw [beq_self_eq_true] at HSame
  clear b4 ho4 HGe HS3 HBe3 hbv
  dsimp only [Option.isSome]
  go_wp2_with fail
  refine HSame.out.mono ?_
  rintro _ _ ⟨rfl, rfl⟩
  have HU := hid (used_calls HS4.out.st)
  rw [show usedB (apB1 d one).l = one.length from by simp [usedB, apB1]] at HU
  clear HSame
  go_wp2_with fail
  refine HU.out.mono ?_
  rintro _ _ ⟨rfl, rfl⟩
  have HD := hid (drop_calls HS4.out.st d hd)
  rw [hlk, drop_one] at HD
  clear HU hlk
  go_wp2_with (refine wpList_load_blk_g (by rfl) 32 _ rfl o rfl 32 _ HBe4.out.2 _ _ Tryd.underlying32 HSZ.out ?_)
  refine HD.out.mono ?_
  rintro _ w5 ⟨rfl, ⟨f5, q1⟩, q3⟩
  have HS5 := hid (HS4.out.of q1 q3 (fun x hx => .inl hx)); have HBe5 := hid (HBe4.out.chg q3 (fun x hx => .inl hx))
  clear q1 q3 HD HS4 HBe4
  dsimp only [Option.isSome]
  have HP := hid (put_calls HS5.out.st d hd A2 c2 two (H2.out.keepB HS5.out.below).fit hc2 (by omega) (HS5.out.glob HG.out) (by omega))
  rw [p7, p8, p9] at HP
  go_wp2_with (refine wpList_load_blk rfl 32 _ rfl o rfl 32 _ HBe5.out.2 _ _ Tryd.underlying32 HSZ.out ?_)
  refine HP.out.mono ?_
  rintro _ w6 ⟨rfl, F6, k6, f6, q1, q6, q3, q4⟩
  have HS6 := hid (HS5.out.of q1 q3 q4); have HBe6 := hid (HBe5.out.chg q3 q4)
  clear q1 q3 q4 HP HS5 HBe5
  have HGe := hid (get_calls HS6.out.st d hd)
  rw [show lookB (apB1 d two).l d = some two from look_one d two] at HGe
  go_wp2_with (refine wpList_load_blk rfl 32 _ rfl o rfl 32 _ HBe6.out.2 _ _ Tryd.underlying32 HSZ.out ?_)
  refine HGe.out.mono ?_
  rintro _ w7 ⟨v, rfl, ho7, b7⟩
  have ho7 : Own w7 w6.heap.size 5 v two.length two := ho7
  obtain ⟨Aw, cw, rfl, hcw, hbv⟩ := BesV.of_own (F := F6) ho7 HS6.out.st.lt
  have HS7 := hid (HS6.out.keep b7)
  have HSame := hid (sameBytes_calls w7.heap.size two.length cw w.heap.size two.length c2 Aw A2 two two w7 hbv.1 (H2.out.keepB HS7.out.below))
  rw [beq_self_eq_true] at HSame
  clear b7 ho7 HGe HS6 HBe6 hbv
  dsimp only [Option.isSome]
  go_wp2_with fail
  refine HSame.out.mono ?_
  rintro _ _ ⟨rfl, rfl⟩
  go_wp2_with fail
  go_ret
  exact ⟨rfl, HS7.out.below⟩
end
end Go.Proofs.YtoogaapjdlhpbaaDoor
