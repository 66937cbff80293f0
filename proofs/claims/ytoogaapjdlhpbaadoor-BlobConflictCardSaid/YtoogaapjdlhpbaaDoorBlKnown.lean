/- The law BlobKnown, walked. -/
import Derived.Test.YtoogaapjdlhpbaaDoorBlAwake
namespace Go.Proofs.YtoogaapjdlhpbaaDoor
open Go.RowKit Crc

def dK : List UInt8 := digB abcT 32
def abdT : List UInt8 := [97, 98, 100]
def st2B : BS := ⟨32, 5, []⟩
theorem sum_dK : sha abcT = dK := by decide +kernel
theorem dK_length : dK.length = 32 := digB_length _ _
theorem kn1 : lookB st1B.l dK = some abcT := by decide +kernel
theorem kn2 : putI st1B dK abdT = false ∧ putE st1B dK abdT = 8 ∧ putB st1B dK abdT = st1B := by
  have h : ¬ (putE st1B dK abdT = 0 ∧ lookB st1B.l dK = none) := by decide +kernel
  exact ⟨by unfold putI; rw [decide_eq_false h], by decide +kernel, if_neg h⟩
theorem kn3 : dropB st1B dK = st2B := by
  have : st1B.l.filter (fun p => !(p.1 == dK)) = [] := by decide +kernel
  unfold dropB
  rw [this]
  rfl
theorem kn4 : dropB st2B dK = st2B := rfl
theorem kn5 : lookB st2B.l dK = none := rfl
/-- a law's own store, and a block of the law's beside it -/
def Bes (F : List Nat) (w : World) (o : Nat) (d : List UInt8) : Prop := o ∉ F ∧ Blk w o 32 (bcells d)
theorem Bes.keep {F : List Nat} {w w' : World} {o : Nat} {d : List UInt8} (h : Bes F w o d) (hb : Below w.heap.size w w') : Bes F w' o d := ⟨h.1, h.2.keep hb⟩
theorem Bes.chg {F F' : List Nat} {w w' : World} {o : Nat} {d : List UInt8} (h : Bes F w o d) (hc : Chg F w w') (hF : ∀ x ∈ F', x ∈ F ∨ w.heap.size ≤ x) : Bes F' w' o d := ⟨notin_of hF h.2.lt h.1, h.2.chg hc h.1⟩
def BesV (F : List Nat) (w : World) (A : Option Addr) (bs : List UInt8) : Prop := SB w w.heap.size A bs.length bs ∧ ∀ b off sp, A = some ⟨b, off, sp⟩ → b ∉ F ∧ b < w.heap.size
theorem BesV.keep {F : List Nat} {w w' : World} {A : Option Addr} {bs : List UInt8} (h : BesV F w A bs) (hb : Below w.heap.size w w') : BesV F w' A bs := ⟨(h.1.keep hb).fit, fun b off sp e => ⟨(h.2 b off sp e).1, Nat.lt_of_lt_of_le (h.2 b off sp e).2 hb.size⟩⟩
theorem BesV.chg {F F' : List Nat} {w w' : World} {A : Option Addr} {bs : List UInt8} (h : BesV F w A bs) (hc : Chg F w w') (hF : ∀ x ∈ F', x ∈ F ∨ w.heap.size ≤ x) : BesV F' w' A bs :=
  ⟨(h.1.chg hc (fun b off e _ => (h.2 b off none e).1)).more hc.size, fun b off sp e => ⟨notin_of hF (h.2 b off sp e).2 (h.2 b off sp e).1, Nat.lt_of_lt_of_le (h.2 b off sp e).2 hc.size⟩⟩
theorem BesV.of_own {F : List Nat} {w0 w : World} {v : Value} {bs : List UInt8} (h : Own w w0.heap.size 5 v bs.length bs) (hF : ∀ x ∈ F, x < w0.heap.size) : ∃ A c, v = .slice A bs.length c ∧ bs.length ≤ c ∧ BesV F w A bs := by
  have hb := h.block
  obtain ⟨A, c, rfl, hc, hs, -⟩ := h.sb
  exact ⟨A, c, rfl, hc, hs, fun b off sp e => by
    subst e
    have := hb b rfl
    exact ⟨fun hm => by have := hF b hm; omega, this.2⟩⟩
set_option maxRecDepth 100000 in
set_option maxHeartbeats 4000000 in
theorem known_calls (w : World) (hG : Glob w) : Calls Tryd.prog 5 #[] w fun e w' => e = .returned (.bool true) ∧ Below w.heap.size w w' := by
  have hz := (zero_of_info info26).1
  have HG := hid hG
  have HN := hid (new_calls 32 5 w (by omega) (by omega) (by omega))
  have HSZ := hid (show (Tryd.prog.info? 32).map (·.size) = some (bcells dK).size from by rw [bcells_size, dK_length]; kernel_rfl)
  have HZ3 := hid (show (bcells (zeroB 32)).size = (bcells dK).size from by rw [bcells_size, bcells_size, dK_length]; rfl)
  clear hG
  go_enter Tryd.func5, Tryd.ntmps5
  go_wp2_with fail
  refine HN.out.mono ?_
  rintro _ w1 ⟨s, m, F, rfl, p1, p2, p3⟩
  have HS := hid (show LawB w w1 F s m 0 st0B _ from ⟨p1, p2, p3⟩)
  clear p1 p2 p3 HN
  have H1 := hid (lputs_calls HS.out HG.out abcT (by decide) true 0 st1B aw1.1 aw1.2.1 aw1.2.2 (by omega))
  go_wp2_with fail
  refine H1.out.mono ?_
  rintro _ w2 ⟨rfl, F2, k2, f2, p1, p2, -, -⟩
  have HS2 := hid p1
  clear H1 HS p1
  go_wp2_with fail
  refine upon_text _ 33 5 Tryd.underlying33 Tryd.underlying5 _ abcT rfl 3 rfl ?_
  intro w3 hs3 hb3
  have HS3 := hid (HS2.out.keep hb3)
  have H2 := hid (sum_calls _ 3 3 _ abcT w3 hs3 (Nat.le_refl _) (HS3.out.glob HG.out) (by omega))
  rw [sum_dK] at H2
  clear hs3 hb3 HS2
  go_wp2_with fail
  refine H2.out.mono ?_
  rintro _ w4 ⟨rfl, b4⟩
  have HS4 := hid (HS3.out.keep b4)
  obtain ⟨q1, q2⟩ := new_set w4 32 (bcells (zeroB 32)) (bcells dK)
  have K3 := hid (Blk.new w4 32 (bcells (zeroB 32)))
  have HS5 := hid (HS4.out.keep q1)
  have HBe := hid (show Bes F2 _ w4.heap.size dK from ⟨fun h => by have := HS4.out.st.lt _ h; omega, q2⟩)
  have HGe := hid (get_calls HS5.out.st dK dK_length)
  clear b4 q1 q2 H2 HS3
  go_wp2_with (first
    | (refine wpList_store_blk rfl 32 _ _ rfl w4.heap.size _ rfl rfl 32 _ K3.out HSZ.out HZ3.out (bcells_oneCell _) ?_)
    | (refine wpList_load_blk rfl 32 _ rfl w4.heap.size rfl 32 _ HBe.out.2 _ _ Tryd.underlying32 HSZ.out ?_))
  generalize (w4.alloc (.cells (bcells (zeroB 32)) 32)).setRow w4.heap.size (bcells dK) = w5 at HS5 HBe HGe ⊢
  clear K3 HS4 hz
  rw [kn1] at HGe
  generalize w4.heap.size = o at HBe ⊢
  refine HGe.out.mono ?_
  rintro _ w6 ⟨v, rfl, ho6, b6⟩
  have ho6 : Own w6 w5.heap.size 5 v abcT.length abcT := ho6
  have hbv := BesV.of_own (F := F2) ho6 HS5.out.st.lt
  obtain ⟨Av, cv, rfl, hcv, hbv⟩ := hbv
  have HS6 := hid (HS5.out.keep b6); have HB6 := hid (HBe.out.keep b6); have HV6 := hid hbv
  clear b6 ho6 HGe HS5 HBe hbv
  dsimp only [Option.isSome, Option.getD]
  go_wp2_with (refine wpList_load_blk rfl 32 _ rfl o rfl 32 _ HB6.out.2 _ _ Tryd.underlying32 HSZ.out ?_)
  refine upon_text _ 33 5 Tryd.underlying33 Tryd.underlying5 _ abdT rfl 3 rfl ?_
  intro w7 hs7 hb7
  have HS7 := hid (HS6.out.keep hb7); have HB7 := hid (HB6.out.keep hb7); have HV7 := hid (HV6.out.keep hb7)
  have H3 := hid (put_calls HS7.out.st dK dK_length _ 3 abdT hs7.fit (Nat.le_refl _) (by decide) (HS7.out.glob HG.out) (by omega))
  rw [kn2.1, kn2.2.1, kn2.2.2] at H3
  clear hs7 hb7 HS6 HB6 HV6
  go_wp2_with fail
  refine H3.out.mono ?_
  rintro _ w8 ⟨rfl, F3, k3, f3, p1, p3, p4, p5⟩
  have HS8 := hid (HS7.out.of p1 p4 p5); have HB8 := hid (HB7.out.chg p4 p5); have HV8 := hid (HV7.out.chg p4 p5)
  clear p1 p4 p5 H3 HS7 HB7 HV7
  go_wp2_with fail
  refine (new_bad 0 5 w8 (by omega)).mono ?_
  rintro _ _ ⟨rfl, rfl⟩
  go_wp2_with fail
  refine (new_bad 33 5 w8 (by omega)).mono ?_
  rintro _ _ ⟨rfl, rfl⟩
  go_wp2_with fail
  refine (new_bad 1 (-1) w8 (by omega)).mono ?_
  rintro _ _ ⟨rfl, rfl⟩
  have hr0 := run_str (P := Tryd.prog) HV8.out.1 cv 33 9 5 Tryd.underlying33 Tryd.underlying5 Tryd.underlying9
  have hr : (convert 33 9 (.slice Av abcT.length cv)).run Tryd.prog w8 = .ok (.string { data := #[97, 98, 99] }) w8 := hr0
  clear hr0
  have HD1 := hid (drop_calls HS8.out.st dK dK_length)
  rw [kn1, kn3] at HD1
  go_wp2_with (refine wpList_load_blk_g (by rfl) 32 _ rfl o rfl 32 _ HB8.out.2 _ _ Tryd.underlying32 HSZ.out ?_)
  refine HD1.out.mono ?_
  rintro _ w9 ⟨rfl, ⟨f9, p1⟩, p2⟩
  have HS9 := hid (HS8.out.of p1 p2 (fun x hx => .inl hx)); have HB9 := hid (HB8.out.chg p2 (fun x hx => .inl hx))
  have HD2 := hid (drop_calls HS9.out.st dK dK_length)
  rw [kn5, kn4] at HD2
  dsimp only [Option.isSome] at HD2 ⊢
  clear p1 p2 HD1 HS8 HB8 HV8 hr
  go_wp2_with (refine wpList_load_blk_g (by rfl) 32 _ rfl o rfl 32 _ HB9.out.2 _ _ Tryd.underlying32 HSZ.out ?_)
  refine HD2.out.mono ?_
  rintro _ w10 ⟨rfl, ⟨f10, p1⟩, p2⟩
  have HS10 := hid (HS9.out.of p1 p2 (fun x hx => .inl hx)); have HB10 := hid (HB9.out.chg p2 (fun x hx => .inl hx))
  have HSi := hid (size_calls HS10.out.st dK dK_length)
  rw [kn5] at HSi
  dsimp only [Option.isSome, Option.getD, List.length_nil] at HSi ⊢
  clear p1 p2 HD2 HS9 HB9
  go_wp2_with (refine wpList_load_blk rfl 32 _ rfl o rfl 32 _ HB10.out.2 _ _ Tryd.underlying32 HSZ.out ?_)
  refine HSi.out.mono ?_
  rintro _ w11 ⟨rfl, b11⟩
  have HS11 := hid (HS10.out.keep b11)
  rw [show ((0 : Nat) : Int) = 0 from rfl]
  have HA := hid (awake_calls w11 (HS11.out.glob HG.out))
  clear b11 HSi HS10 HB10
  go_wp2_with fail
  refine HA.out.mono ?_
  rintro _ w12 ⟨rfl, b12⟩
  have HS12 := hid (HS11.out.keep b12)
  have HI := hid (ids_nil HS12.out.st rfl)
  clear b12 HA HS11
  go_wp2_with fail
  refine HI.out.mono ?_
  rintro _ w13 ⟨A13, c13, rfl, b13⟩
  have HS13 := hid (HS12.out.keep b13)
  have HR := hid (room_calls HS13.out.st)
  clear b13 HI HS12
  go_wp2_with fail
  refine HR.out.mono ?_
  rintro _ _ ⟨rfl, rfl⟩
  have HW := hid (width_calls HS13.out.st)
  rw [show ((st2B.room : Nat) : Int) = 5 from rfl]
  clear HR
  go_wp2_with fail
  refine HW.out.mono ?_
  rintro _ _ ⟨rfl, rfl⟩
  rw [show ((st2B.width : Nat) : Int) = 32 from rfl]
  clear HW
  go_wp2_with fail
  go_ret
  exact ⟨rfl, HS13.out.below⟩
end Go.Proofs.YtoogaapjdlhpbaaDoor
