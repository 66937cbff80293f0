/- Contracts: what the laws of blob ask: puts, awake. -/
import Derived.Test.YtoogaapjdlhpbaaDoorBlNo
import Derived.Lib.ConvBytes
namespace Go.Proofs.YtoogaapjdlhpbaaDoor
open Go.RowKit Crc

/-- a text as bytes: a new row -/
theorem wpList_text_bytes {P : Program} {w : World} {ops : Array Oper} {rest : List Oper} {o : Oper} {a : Act} {Q : Exit → Act → World → Prop} (hgd : o.guard = none) (src dst e : TypeId) (x : Operand) (ho : o.op = .convert src dst x)
    (hs : P.underlying src = some .string) (hd : P.underlying dst = some (.slice e)) (he : P.underlying e = some (.int .u8)) (cs : List UInt8) (hx : a.eval x = .string (strB cs))
    (h : ∀ w' c, Below w.heap.size w w' → w'.heap.size = w.heap.size + 1 → SB w' w'.heap.size (some ⟨w.heap.size, 0, none⟩) cs.length cs → cs.length ≤ c → wpList P ops Q rest (a.put o.dst (.slice (some ⟨w.heap.size, 0, none⟩) cs.length c)) w') : wpList P ops Q (o :: rest) a w := by
  refine wpList_plain hgd fun K hK => ?_
  have hr := Lib.run_convert_string_bytes (P := P) w src dst e (strB cs) hs hd he
  have hsz := Lib.bytesWorld_size w e (strB cs)
  unfold Oper.wp execOp
  simp only [ho, hx, Sem.run_bind, Sem.run_pure, Result.andThen_ok, hr]
  refine hK _ _ (h _ _ ⟨rfl, rfl, rfl, by omega, fun k hk => Lib.bytesWorld_at_old w e (strB cs) k hk⟩ hsz ⟨rfl, fun _ => ⟨w.heap.size, 0, rfl, by omega, fun j y hj => ?_⟩⟩ (grownCap_ge w cs.length 0 e))
  have hlt : j < cs.length := (List.getElem?_eq_some_iff.1 hj).1
  have := Lib.bytesWorld_cell w e (strB cs) j hlt
  rw [Nat.zero_add, this]
  simp [strB, List.getD, hj, bv]
section
variable {w : World} {F : List Nat} {s m k : Nat} {b : BS} {f0 : List UInt8 → Option Nat}
set_option maxRecDepth 20000 in
set_option maxHeartbeats 2000000 in
theorem puts_calls (hs : StB w F s m k b f0) (cs : List UInt8) (hcs : cs.length ≤ 1000) (want : Bool) (err : Nat) (hI : putI b (digB cs b.width) cs = want) (hE : putE b (digB cs b.width) cs = err) (hG : Glob w) (hk : k ≤ 1000000) :
    Calls Tryd.prog 31 #[.pointer (some ⟨s, 0, none⟩), .string (strB cs), .bool want, .int .i64 (err : Int)] w fun e w' => e = .returned (.bool true) ∧ ∃ F' k' f', StB w' F' s m k' (putB b (digB cs b.width) cs) f' ∧ k' ≤ k + 1 ∧ Chg F w w' ∧ ∀ x ∈ F', x ∈ F ∨ w.heap.size ≤ x := by
  have hz := (zero_of_info info26).1
  have HS := hid hs; have HG := hid hG
  have HL := digB_length cs b.width
  have ce : cutE (b.width : Int) = 0 := by rw [cutE, if_neg (by have := hs.ok.w1; have := hs.ok.w2; omega)]
  have HCE := hid ce
  clear hs hG ce
  go_enter Tryd.func31, Tryd.ntmps31
  go_wp2_with (refine wpList_text_bytes rfl 9 33 5 _ rfl Tryd.underlying9 Tryd.underlying33 Tryd.underlying5 cs rfl ?_; refine Held.go ?_)
  unfold Held
  intro w1 c1 hb1 _ hs1 hc1
  have HS1 := hid (HS.out.keep hb1); have HG1 := hid (HG.out.keep hb1); have HB1 := hid hb1; have HSB1 := hid hs1
  have HW := hid (width_calls HS1.out)
  clear hb1 hs1 HS HG
  go_wp2_with fail
  refine HW.out.mono ?_
  rintro _ _ ⟨rfl, rfl⟩
  have HO := hid (own_of_calls w1.heap.size cs.length c1 (some ⟨w.heap.size, 0, none⟩) cs (b.width : Int) w1 HSB1.out hc1 HG1.out (by omega))
  rw [HCE.out, show cutB (sha cs) (b.width : Int) = digB cs b.width from rfl] at HO
  generalize hdd : digB cs b.width = d at HL HO hI hE
  clear HW HSB1 hc1
  go_wp2_with fail
  refine HO.out.mono ?_
  rintro _ w2 ⟨rfl, b2⟩
  have HS2 := hid (HS1.out.keep b2); have HG2 := hid (HG1.out.keep b2); have HB2 := hid (HB1.out.trans (b2.mono HB1.out.size))
  have HSZ := hid (show (Tryd.prog.info? 32).map (·.size) = some (bcells d).size from by rw [bcells_size, HL]; kernel_rfl)
  have HZ3 := hid (show (bcells (zeroB 32)).size = (bcells d).size from by rw [bcells_size, bcells_size, HL]; rfl)
  obtain ⟨q1, q2⟩ := new_set w2 32 (bcells (zeroB 32)) (bcells d)
  have K3 := hid (Blk.new w2 32 (bcells (zeroB 32)))
  have K4 := hid q2; have HS4 := hid (HS2.out.keep q1); have HG4 := hid (HG2.out.keep q1); have HB4 := hid (HB2.out.trans (q1.mono HB2.out.size))
  clear b2 q1 q2 HO HS1 HG1 HB1 HS2 HG2 HB2
  go_wp2_with (first
    | (refine wpList_store_blk rfl 32 _ _ rfl w2.heap.size _ rfl rfl 32 _ K3.out HSZ.out HZ3.out (bcells_oneCell _) ?_)
    | (refine wpList_load_blk rfl 32 _ rfl w2.heap.size rfl 32 _ K4.out _ _ Tryd.underlying32 HSZ.out ?_)
    | (refine wpList_text_bytes rfl 9 33 5 _ rfl Tryd.underlying9 Tryd.underlying33 Tryd.underlying5 cs rfl ?_; refine Held.go ?_))
  unfold Held
  have hz4 : ((w2.alloc (.cells (bcells (zeroB 32)) 32)).setRow w2.heap.size (bcells d)).heap.size = w2.heap.size + 1 := by simp
  generalize (w2.alloc (.cells (bcells (zeroB 32)) 32)).setRow w2.heap.size (bcells d) = w4 at K4 HS4 HG4 HB4 hz4 ⊢
  intro w5 c5 hb5 _ hs5 hc5
  rw [← hz4] at hb5
  have HS5 := hid (HS4.out.keep hb5); have HG5 := hid (HG4.out.keep hb5); have HB5 := hid (HB4.out.trans (hb5.mono HB4.out.size))
  have HP := hid (put_calls HS5.out d HL (some ⟨w2.heap.size + 1, 0, none⟩) c5 cs hs5 hc5 (by omega) HG5.out hk)
  rw [hI, hE] at HP
  clear hb5 hs5 hc5 K3 K4 HS4 HG4 HB4 hz HSZ HZ3 HG5 HS5
  go_wp2_with fail
  refine HP.out.mono ?_
  rintro _ w6 ⟨rfl, F', k', f', p1, p2, p3, p4⟩
  have HEnd := hid (show ∃ F' k' f', StB w6 F' s m k' (putB b d cs) f' ∧ k' ≤ k + 1 ∧ Chg F w w6 ∧ ∀ x ∈ F', x ∈ F ∨ w.heap.size ≤ x from
    ⟨F', k', f', p1, p2, (Chg.of_below (L := F) HB5.out).trans p3 (fun x hx => .inl hx), fun x hx => (p4 x hx).imp (fun h => h) (fun h => Nat.le_trans HB5.out.size h)⟩)
  clear p1 p2 p3 p4 HP HB5
  go_wp2_with fail
  go_ret
  exact ⟨rfl, by rw [hdd]; exact HEnd.out⟩
end
end Go.Proofs.YtoogaapjdlhpbaaDoor
/- Contracts: a law's own store; puts and awake. -/
namespace Go.Proofs.YtoogaapjdlhpbaaDoor
open Go.RowKit Crc

/-- a law's own store: all that it has is new -/
structure LawB (w0 w : World) (F : List Nat) (s m k : Nat) (b : BS) (f : List UInt8 → Option Nat) : Prop where
  st : StB w F s m k b f
  below : Below w0.heap.size w0 w
  new : ∀ x ∈ F, w0.heap.size ≤ x
section
variable {w0 w w' : World} {F : List Nat} {s m k : Nat} {b : BS} {f : List UInt8 → Option Nat}
theorem LawB.keep (h : LawB w0 w F s m k b f) (hb : Below w.heap.size w w') : LawB w0 w' F s m k b f := ⟨h.st.keep hb, h.below.trans (hb.mono h.below.size), h.new⟩
theorem LawB.of (h : LawB w0 w F s m k b f) {F' : List Nat} {k' : Nat} {b' : BS} {f' : List UInt8 → Option Nat} (hs : StB w' F' s m k' b' f') (hc : Chg F w w') (hF : ∀ x ∈ F', x ∈ F ∨ w.heap.size ≤ x) : LawB w0 w' F' s m k' b' f' :=
  ⟨hs, h.below.trans (hc.below h.new h.below.size), fun x hx => (hF x hx).elim (fun hx => h.new x hx) (fun hx => Nat.le_trans h.below.size hx)⟩
theorem LawB.glob (h : LawB w0 w F s m k b f) (hG : Glob w0) : Glob w := hG.keep h.below
theorem notin_of {F' : List Nat} {o : Nat} (hF : ∀ x ∈ F', x ∈ F ∨ w.heap.size ≤ x) (ho : o < w.heap.size) (hn : o ∉ F) : o ∉ F' := fun h => (hF o h).elim hn (fun h => by omega)
def PutsP (w0 w : World) (F : List Nat) (s m k : Nat) (b : BS) (w' : World) : Prop := ∃ F' k' f', LawB w0 w' F' s m k' b f' ∧ k' ≤ k + 1 ∧ Chg F w w' ∧ ∀ x ∈ F', x ∈ F ∨ w.heap.size ≤ x
theorem lputs_calls (h : LawB w0 w F s m k b f) (hG : Glob w0) (cs : List UInt8) (hcs : cs.length ≤ 1000) (want : Bool) (err : Nat) (b' : BS) (hI : putI b (digB cs b.width) cs = want) (hE : putE b (digB cs b.width) cs = err) (hB : putB b (digB cs b.width) cs = b') (hk : k ≤ 1000000) :
    Calls Tryd.prog 31 #[.pointer (some ⟨s, 0, none⟩), .string (strB cs), .bool want, .int .i64 (err : Int)] w fun e w' => e = .returned (.bool true) ∧ PutsP w0 w F s m k b' w' := by
  refine (puts_calls h.st cs hcs want err hI hE (h.glob hG) hk).mono ?_
  rintro _ w1 ⟨rfl, F', k', f', p1, p2, p3, p4⟩
  rw [hB] at p1
  exact ⟨rfl, F', k', f', h.of p1 p3 p4, p2, p3, p4⟩
end
def abcT : List UInt8 := [97, 98, 99]
def defgT : List UInt8 := [100, 101, 102, 103]
def st0B : BS := ⟨32, 5, []⟩
def st1B : BS := ⟨32, 5, [(digB abcT 32, abcT)]⟩
theorem aw1 : putI st0B (digB abcT 32) abcT = true ∧ putE st0B (digB abcT 32) abcT = 0 ∧ putB st0B (digB abcT 32) abcT = st1B := by
  refine ⟨by decide +kernel, by decide +kernel, ?_⟩
  have h : putE st0B (digB abcT 32) abcT = 0 ∧ lookB st0B.l (digB abcT 32) = none := ⟨by decide +kernel, rfl⟩
  unfold putB
  rw [if_pos h]
  rfl
theorem aw2 : putI st1B (digB abcT 32) abcT = false ∧ putE st1B (digB abcT 32) abcT = 0 ∧ putB st1B (digB abcT 32) abcT = st1B := by
  have h : ¬ (putE st1B (digB abcT 32) abcT = 0 ∧ lookB st1B.l (digB abcT 32) = none) := by decide +kernel
  exact ⟨by unfold putI; rw [decide_eq_false h], by decide +kernel, if_neg h⟩
theorem aw3 : putI st1B (digB defgT 32) defgT = false ∧ putE st1B (digB defgT 32) defgT = 10 ∧ putB st1B (digB defgT 32) defgT = st1B := by
  have h : ¬ (putE st1B (digB defgT 32) defgT = 0 ∧ lookB st1B.l (digB defgT 32) = none) := by decide +kernel
  exact ⟨by unfold putI; rw [decide_eq_false h], by decide +kernel, if_neg h⟩
set_option maxRecDepth 20000 in
set_option maxHeartbeats 2000000 in
theorem awake_calls (w : World) (hG : Glob w) : Calls Tryd.prog 28 #[] w fun e w' => e = .returned (.bool true) ∧ Below w.heap.size w w' := by
  have HG := hid hG
  have HN := hid (new_calls 32 5 w (by omega) (by omega) (by omega))
  clear hG
  go_enter Tryd.func28, Tryd.ntmps28
  go_wp2_with fail
  refine HN.out.mono ?_
  rintro _ w1 ⟨s, m, F, rfl, p1, p2, p3⟩
  have HS := hid (show LawB w w1 F s m 0 st0B _ from ⟨p1, p2, p3⟩)
  clear p1 p2 p3 HN
  have H1 := hid (lputs_calls HS.out HG.out abcT (by decide) true 0 st1B aw1.1 aw1.2.1 aw1.2.2 (by omega))
  go_wp2_with fail
  refine H1.out.mono ?_
  rintro _ w2 ⟨rfl, F2, k2, f2, p1, p2, -, -⟩
  have HS2 := hid p1
  have H2 := hid (lputs_calls HS2.out HG.out abcT (by decide) false 0 st1B aw2.1 aw2.2.1 aw2.2.2 (by omega))
  clear H1 HS p1
  go_wp2_with fail
  refine H2.out.mono ?_
  rintro _ w3 ⟨rfl, F3, k3, f3, p1, p3, -, -⟩
  have HS3 := hid p1
  have H3 := hid (used_calls HS3.out.st)
  rw [show usedB st1B.l = 3 from by decide +kernel] at H3
  clear H2 HS2 p1
  go_wp2_with fail
  refine H3.out.mono ?_
  rintro _ _ ⟨rfl, rfl⟩
  have H4 := hid (lputs_calls HS3.out HG.out defgT (by decide) false 10 st1B aw3.1 aw3.2.1 aw3.2.2 (by omega))
  clear H3
  rw [show ((3 : Nat) : Int) = 3 from rfl]
  go_wp2_with fail
  refine H4.out.mono ?_
  rintro _ w4 ⟨rfl, F4, k4, f4, p1, p4, -, -⟩
  have HB := hid p1.below
  clear H4 HS3 p1
  go_wp2_with fail
  go_ret
  exact ⟨rfl, HB.out⟩
end Go.Proofs.YtoogaapjdlhpbaaDoor
/- The law BlobKnown, walked. -/
namespace Go.Proofs.YtoogaapjdlhpbaaDoor
open Go.RowKit Crc

def dK : List UInt8 := digB abcT 32
def abdT : List UInt8 := [97, 98, 100]
def st2B : BS := ⟨32, 5, []⟩
theorem sum_dK : sha abcT = dK := by decide +kernel
theorem dK_length : dK.length = 32 := digB_length _ _
theorem kn1 : lookB st1B.l dK = some abcT := by decide +kernel
theorem kn2 : putI st1B dK abdT = false ∧ putE st1B dK abdT = 8 ∧ putB st1B dK abdT = st1B := by
  have h : ¬ (putE st1B dK abdT = 0 ∧ lookB st1B.l dK = none) := by decide +kernel
  exact ⟨by unfold putI; rw [decide_eq_false h], by decide +kernel, if_neg h⟩
theorem kn3 : dropB st1B dK = st2B := by
  have : st1B.l.filter (fun p => !(p.1 == dK)) = [] := by decide +kernel
  unfold dropB
  rw [this]
  rfl
theorem kn4 : dropB st2B dK = st2B := rfl
theorem kn5 : lookB st2B.l dK = none := rfl
/-- a law's own store, and a block of the law's beside it -/
def Bes (F : List Nat) (w : World) (o : Nat) (d : List UInt8) : Prop := o ∉ F ∧ Blk w o 32 (bcells d)
theorem Bes.keep {F : List Nat} {w w' : World} {o : Nat} {d : List UInt8} (h : Bes F w o d) (hb : Below w.heap.size w w') : Bes F w' o d := ⟨h.1, h.2.keep hb⟩
theorem Bes.chg {F F' : List Nat} {w w' : World} {o : Nat} {d : List UInt8} (h : Bes F w o d) (hc : Chg F w w') (hF : ∀ x ∈ F', x ∈ F ∨ w.heap.size ≤ x) : Bes F' w' o d := ⟨notin_of hF h.2.lt h.1, h.2.chg hc h.1⟩
def BesV (F : List Nat) (w : World) (A : Option Addr) (bs : List UInt8) : Prop := SB w w.heap.size A bs.length bs ∧ ∀ b off sp, A = some ⟨b, off, sp⟩ → b ∉ F ∧ b < w.heap.size
theorem BesV.keep {F : List Nat} {w w' : World} {A : Option Addr} {bs : List UInt8} (h : BesV F w A bs) (hb : Below w.heap.size w w') : BesV F w' A bs := ⟨(h.1.keep hb).fit, fun b off sp e => ⟨(h.2 b off sp e).1, Nat.lt_of_lt_of_le (h.2 b off sp e).2 hb.size⟩⟩
theorem BesV.chg {F F' : List Nat} {w w' : World} {A : Option Addr} {bs : List UInt8} (h : BesV F w A bs) (hc : Chg F w w') (hF : ∀ x ∈ F', x ∈ F ∨ w.heap.size ≤ x) : BesV F' w' A bs :=
  ⟨(h.1.chg hc (fun b off e _ => (h.2 b off none e).1)).more hc.size, fun b off sp e => ⟨notin_of hF (h.2 b off sp e).2 (h.2 b off sp e).1, Nat.lt_of_lt_of_le (h.2 b off sp e).2 hc.size⟩⟩
theorem BesV.of_own {F : List Nat} {w0 w : World} {v : Value} {bs : List UInt8} (h : Own w w0.heap.size 5 v bs.length bs) (hF : ∀ x ∈ F, x < w0.heap.size) : ∃ A c, v = .slice A bs.length c ∧ bs.length ≤ c ∧ BesV F w A bs := by
  have hb := h.block
  obtain ⟨A, c, rfl, hc, hs, -⟩ := h.sb
  exact ⟨A, c, rfl, hc, hs, fun b off sp e => by
    subst e
    have := hb b rfl
    exact ⟨fun hm => by have := hF b hm; omega, this.2⟩⟩
set_option maxRecDepth 100000 in
set_option maxHeartbeats 4000000 in
theorem known_calls (w : World) (hG : Glob w) : Calls Tryd.prog 5 #[] w fun e w' => e = .returned (.bool true) ∧ Below w.heap.size w w' := by
  have hz := (zero_of_info info26).1
  have HG := hid hG
  have HN := hid (new_calls 32 5 w (by omega) (by omega) (by omega))
  have HSZ := hid (show (Tryd.prog.info? 32).map (·.size) = some (bcells dK).size from by rw [bcells_size, dK_length]; kernel_rfl)
  have HZ3 := hid (show (bcells (zeroB 32)).size = (bcells dK).size from by rw [bcells_size, bcells_size, dK_length]; rfl)
  clear hG
  go_enter Tryd.func5, Tryd.ntmps5
  go_wp2_with fail
  refine HN.out.mono ?_
  rintro _ w1 ⟨s, m, F, rfl, p1, p2, p3⟩
  have HS := hid (show LawB w w1 F s m 0 st0B _ from ⟨p1, p2, p3⟩)
  clear p1 p2 p3 HN
  have H1 := hid (lputs_calls HS.out HG.out abcT (by decide) true 0 st1B aw1.1 aw1.2.1 aw1.2.2 (by omega))
  go_wp2_with fail
  refine H1.out.mono ?_
  rintro _ w2 ⟨rfl, F2, k2, f2, p1, p2, -, -⟩
  have HS2 := hid p1
  clear H1 HS p1
  go_wp2_with fail
  refine upon_text _ 33 5 Tryd.underlying33 Tryd.underlying5 _ abcT rfl 3 rfl ?_
  intro w3 hs3 hb3
  have HS3 := hid (HS2.out.keep hb3)
  have H2 := hid (sum_calls _ 3 3 _ abcT w3 hs3 (Nat.le_refl _) (HS3.out.glob HG.out) (by omega))
  rw [sum_dK] at H2
  clear hs3 hb3 HS2
  go_wp2_with fail
  refine H2.out.mono ?_
  rintro _ w4 ⟨rfl, b4⟩
  have HS4 := hid (HS3.out.keep b4)
  obtain ⟨q1, q2⟩ := new_set w4 32 (bcells (zeroB 32)) (bcells dK)
  have K3 := hid (Blk.new w4 32 (bcells (zeroB 32)))
  have HS5 := hid (HS4.out.keep q1)
  have HBe := hid (show Bes F2 _ w4.heap.size dK from ⟨fun h => by have := HS4.out.st.lt _ h; omega, q2⟩)
  have HGe := hid (get_calls HS5.out.st dK dK_length)
  clear b4 q1 q2 H2 HS3
  go_wp2_with (first
    | (refine wpList_store_blk rfl 32 _ _ rfl w4.heap.size _ rfl rfl 32 _ K3.out HSZ.out HZ3.out (bcells_oneCell _) ?_)
    | (refine wpList_load_blk rfl 32 _ rfl w4.heap.size rfl 32 _ HBe.out.2 _ _ Tryd.underlying32 HSZ.out ?_))
  generalize (w4.alloc (.cells (bcells (zeroB 32)) 32)).setRow w4.heap.size (bcells dK) = w5 at HS5 HBe HGe ⊢
  clear K3 HS4 hz
  rw [kn1] at HGe
  generalize w4.heap.size = o at HBe ⊢
  refine HGe.out.mono ?_
  rintro _ w6 ⟨v, rfl, ho6, b6⟩
  have ho6 : Own w6 w5.heap.size 5 v abcT.length abcT := ho6
  have hbv := BesV.of_own (F := F2) ho6 HS5.out.st.lt
  obtain ⟨Av, cv, rfl, hcv, hbv⟩ := hbv
  have HS6 := hid (HS5.out.keep b6); have HB6 := hid (HBe.out.keep b6); have HV6 := hid hbv
  clear b6 ho6 HGe HS5 HBe hbv
  dsimp only [Option.isSome, Option.getD]
  go_wp2_with (refine wpList_load_blk rfl 32 _ rfl o rfl 32 _ HB6.out.2 _ _ Tryd.underlying32 HSZ.out ?_)
  refine upon_text _ 33 5 Tryd.underlying33 Tryd.underlying5 _ abdT rfl 3 rfl ?_
  intro w7 hs7 hb7
  have HS7 := hid (HS6.out.keep hb7); have HB7 := hid (HB6.out.keep hb7); have HV7 := hid (HV6.out.keep hb7)
  have H3 := hid (put_calls HS7.out.st dK dK_length _ 3 abdT hs7.fit (Nat.le_refl _) (by decide) (HS7.out.glob HG.out) (by omega))
  rw [kn2.1, kn2.2.1, kn2.2.2] at H3
  clear hs7 hb7 HS6 HB6 HV6
  go_wp2_with fail
  refine H3.out.mono ?_
  rintro _ w8 ⟨rfl, F3, k3, f3, p1, p3, p4, p5⟩
  have HS8 := hid (HS7.out.of p1 p4 p5); have HB8 := hid (HB7.out.chg p4 p5); have HV8 := hid (HV7.out.chg p4 p5)
  clear p1 p4 p5 H3 HS7 HB7 HV7
  go_wp2_with fail
  refine (new_bad 0 5 w8 (by omega)).mono ?_
  rintro _ _ ⟨rfl, rfl⟩
  go_wp2_with fail
  refine (new_bad 33 5 w8 (by omega)).mono ?_
  rintro _ _ ⟨rfl, rfl⟩
  go_wp2_with fail
  refine (new_bad 1 (-1) w8 (by omega)).mono ?_
  rintro _ _ ⟨rfl, rfl⟩
  have hr0 := run_str (P := Tryd.prog) HV8.out.1 cv 33 9 5 Tryd.underlying33 Tryd.underlying5 Tryd.underlying9
  have hr : (convert 33 9 (.slice Av abcT.length cv)).run Tryd.prog w8 = .ok (.string { data := #[97, 98, 99] }) w8 := hr0
  clear hr0
  have HD1 := hid (drop_calls HS8.out.st dK dK_length)
  rw [kn1, kn3] at HD1
  go_wp2_with (refine wpList_load_blk_g (by rfl) 32 _ rfl o rfl 32 _ HB8.out.2 _ _ Tryd.underlying32 HSZ.out ?_)
  refine HD1.out.mono ?_
  rintro _ w9 ⟨rfl, ⟨f9, p1⟩, p2⟩
  have HS9 := hid (HS8.out.of p1 p2 (fun x hx => .inl hx)); have HB9 := hid (HB8.out.chg p2 (fun x hx => .inl hx))
  have HD2 := hid (drop_calls HS9.out.st dK dK_length)
  rw [kn5, kn4] at HD2
  dsimp only [Option.isSome] at HD2 ⊢
  clear p1 p2 HD1 HS8 HB8 HV8 hr
  go_wp2_with (refine wpList_load_blk_g (by rfl) 32 _ rfl o rfl 32 _ HB9.out.2 _ _ Tryd.underlying32 HSZ.out ?_)
  refine HD2.out.mono ?_
  rintro _ w10 ⟨rfl, ⟨f10, p1⟩, p2⟩
  have HS10 := hid (HS9.out.of p1 p2 (fun x hx => .inl hx)); have HB10 := hid (HB9.out.chg p2 (fun x hx => .inl hx))
  have HSi := hid (size_calls HS10.out.st dK dK_length)
  rw [kn5] at HSi
  dsimp only [Option.isSome, Option.getD, List.length_nil] at HSi ⊢
  clear p1 p2 HD2 HS9 HB9
  go_wp2_with (refine wpList_load_blk rfl 32 _ rfl o rfl 32 _ HB10.out.2 _ _ Tryd.underlying32 HSZ.out ?_)
  refine HSi.out.mono ?_
  rintro _ w11 ⟨rfl, b11⟩
  have HS11 := hid (HS10.out.keep b11)
  rw [show ((0 : Nat) : Int) = 0 from rfl]
  have HA := hid (awake_calls w11 (HS11.out.glob HG.out))
  clear b11 HSi HS10 HB10
  go_wp2_with fail
  refine HA.out.mono ?_
  rintro _ w12 ⟨rfl, b12⟩
  have HS12 := hid (HS11.out.keep b12)
  have HI := hid (ids_nil HS12.out.st rfl)
  clear b12 HA HS11
  go_wp2_with fail
  refine HI.out.mono ?_
  rintro _ w13 ⟨A13, c13, rfl, b13⟩
  have HS13 := hid (HS12.out.keep b13)
  have HR := hid (room_calls HS13.out.st)
  clear b13 HI HS12
  go_wp2_with fail
  refine HR.out.mono ?_
  rintro _ _ ⟨rfl, rfl⟩
  have HW := hid (width_calls HS13.out.st)
  rw [show ((st2B.room : Nat) : Int) = 5 from rfl]
  clear HR
  go_wp2_with fail
  refine HW.out.mono ?_
  rintro _ _ ⟨rfl, rfl⟩
  rw [show ((st2B.width : Nat) : Int) = 32 from rfl]
  clear HW
  go_wp2_with fail
  go_ret
  exact ⟨rfl, HS13.out.below⟩
end Go.Proofs.YtoogaapjdlhpbaaDoor
/- Contract of a law of blob: apart: two unlike blobs of one digest. -/
namespace Go.Proofs.YtoogaapjdlhpbaaDoor
open Go.RowKit Crc

theorem putE_form (b : BS) (id bs : List UInt8) (h1 : bs.length ≤ 4096) (h2 : digB bs b.width = id) : putE b id bs = (match lookB b.l id with | some x => if (x == bs) then 0 else 9 | none => if decide ((bs.length : Int) ≤ (b.room : Int) - (usedB b.l : Int)) then 0 else 10) := by
  unfold putE putErrs e9 e10
  have e1 : decide ((bs.length : Int) ≤ 4096) = true := decide_eq_true (by omega)
  have e2 : (digB bs b.width == id) = true := by rw [h2]; exact beq_self_eq_true id
  rw [e1, e2]
  cases lookB b.l id with
  | none => simp only [firstE, if_true]; split <;> simp
  | some x => simp only [firstE, if_true]; split <;> simp
theorem put_new {b : BS} {id bs : List UInt8} (h1 : bs.length ≤ 4096) (h2 : digB bs b.width = id) (h3 : lookB b.l id = none) (h4 : usedB b.l + bs.length ≤ b.room) : putI b id bs = true ∧ putE b id bs = 0 ∧ putB b id bs = { b with l := b.l ++ [(id, bs)] } := by
  have he : putE b id bs = 0 := by
    rw [putE_form b id bs h1 h2, h3]
    simp only
    rw [if_pos (decide_eq_true (by omega))]
  exact ⟨by unfold putI; exact decide_eq_true ⟨he, h3⟩, he, if_pos ⟨he, h3⟩⟩
theorem put_other {b : BS} {id bs x : List UInt8} (h1 : bs.length ≤ 4096) (h2 : digB bs b.width = id) (h3 : lookB b.l id = some x) (h4 : x ≠ bs) : putI b id bs = false ∧ putE b id bs = 9 ∧ putB b id bs = b := by
  have he : putE b id bs = 9 := by
    rw [putE_form b id bs h1 h2, h3]
    simp only
    rw [if_neg (by simpa using h4)]
  have hn : ¬ (putE b id bs = 0 ∧ lookB b.l id = none) := fun h => by rw [he] at h; exact absurd h.1 (by decide)
  exact ⟨by unfold putI; exact decide_eq_false hn, he, if_neg hn⟩
section
variable (d one two : List UInt8)
def apB : BS := ⟨1, 100, []⟩
def apB1 : BS := ⟨1, 100, [(d, one)]⟩
theorem look_one : lookB [(d, one)] d = some one := by unfold lookB; simp
theorem drop_one : dropB (apB1 d one) d = apB := by unfold dropB apB1 apB; simp
set_option maxRecDepth 100000 in
set_option maxHeartbeats 4000000 in
theorem apart_calls (h1 : digB one 1 = d) (h2 : digB two 1 = d) (hne : one ≠ two) (hl1 : one.length ≤ 20) (hl2 : two.length ≤ 20) (A1 A2 : Option Addr) (c1 c2 : Nat) (w : World) (hs1 : SB w w.heap.size A1 one.length one) (hs2 : SB w w.heap.size A2 two.length two) (hc1 : one.length ≤ c1) (hc2 : two.length ≤ c2) (hG : Glob w) :
    Calls Tryd.prog 38 #[.agg (bcells d), .slice A1 one.length c1, .slice A2 two.length c2] w fun e w' => e = .returned (.bool true) ∧ Below w.heap.size w w' := by
  have hd : d.length = 32 := by rw [← h1]; exact digB_length _ _
  obtain ⟨p1, p2, p3⟩ := put_new (b := apB) (id := d) (bs := one) (by omega) h1 rfl (by show 0 + one.length ≤ 100; omega)
  obtain ⟨p4, p5, p6⟩ := put_other (b := apB1 d one) (id := d) (bs := two) (by omega) h2 (look_one d one) hne
  obtain ⟨p7, p8, p9⟩ := put_new (b := apB) (id := d) (bs := two) (by omega) h2 rfl (by show 0 + two.length ≤ 100; omega)
  have p3 : putB apB d one = apB1 d one := p3
  have p9 : putB apB d two = apB1 d two := p9
  have HG := hid hG
  have HSZ := hid (show (Tryd.prog.info? 32).map (·.size) = some (bcells d).size from by rw [bcells_size, hd]; kernel_rfl)
  have HO0 := hid (Blk.new w 32 (bcells d)); have HB0 := hid (below_new w (.cells (bcells d) 32))
  have H1 := hid hs1; have H2 := hid hs2
  clear hs1 hs2 hG h1 h2
  go_enter Tryd.func38, Tryd.ntmps38
  go_wp2_with fail
  generalize w.alloc (.cells (bcells d) 32) = w0 at HO0 HB0 ⊢
  generalize hqo : w.heap.size = o at HO0
  refine (new_calls 1 100 w0 (by omega) (by omega) (by omega)).mono ?_
  rintro _ w1 ⟨s, m, F, rfl, q1, q2, q3⟩
  have HS := hid (show LawB w w1 F s m 0 apB _ from ⟨q1, HB0.out.trans (q2.mono HB0.out.size), fun x hx => Nat.le_trans HB0.out.size (q3 x hx)⟩)
  have HBe := hid (show Bes F w1 o d from ⟨fun h => by have := q3 o h; have := HO0.out.lt; omega, HO0.out.keep q2⟩)
  clear q1 q2 q3 HO0 HB0
  have HP := hid (put_calls HS.out.st d hd A1 c1 one (H1.out.keepB HS.out.below).fit hc1 (by omega) (HS.out.glob HG.out) (by omega))
  rw [p1, p2, p3] at HP
  go_wp2_with (refine wpList_load_blk rfl 32 _ rfl o rfl 32 _ HBe.out.2 _ _ Tryd.underlying32 HSZ.out ?_)
  refine HP.out.mono ?_
  rintro _ w2 ⟨rfl, F2, k2, f2, q1, q2, q3, q4⟩
  have HS2 := hid (HS.out.of q1 q3 q4); have HBe2 := hid (HBe.out.chg q3 q4)
  clear q1 q3 q4 HP HS HBe
  have HP := hid (put_calls HS2.out.st d hd A2 c2 two (H2.out.keepB HS2.out.below).fit hc2 (by omega) (HS2.out.glob HG.out) (by omega))
  rw [p4, p5, p6] at HP
  go_wp2_with (refine wpList_load_blk rfl 32 _ rfl o rfl 32 _ HBe2.out.2 _ _ Tryd.underlying32 HSZ.out ?_)
  refine HP.out.mono ?_
  rintro _ w3 ⟨rfl, F3, k3, f3, q1, q5, q3, q4⟩
  have HS3 := hid (HS2.out.of q1 q3 q4); have HBe3 := hid (HBe2.out.chg q3 q4)
  clear q1 q3 q4 HP HS2 HBe2
  have HGe := hid (get_calls HS3.out.st d hd)
  have hlk : lookB (apB1 d one).l d = some one := look_one d one
  rw [hlk] at HGe
  go_wp2_with (refine wpList_load_blk rfl 32 _ rfl o rfl 32 _ HBe3.out.2 _ _ Tryd.underlying32 HSZ.out ?_)
  refine HGe.out.mono ?_
  rintro _ w4 ⟨v, rfl, ho4, b4⟩
  have ho4 : Own w4 w3.heap.size 5 v one.length one := ho4
  obtain ⟨Av, cv, rfl, hcv, hbv⟩ := BesV.of_own (F := F3) ho4 HS3.out.st.lt
  have HS4 := hid (HS3.out.keep b4); have HBe4 := hid (HBe3.out.keep b4)
  have HSame := hid (sameBytes_calls w4.heap.size one.length cv w.heap.size one.length c1 Av A1 one one w4 hbv.1 (H1.out.keepB HS4.out.below))
  rw [beq_self_eq_true] at HSame
  clear b4 ho4 HGe HS3 HBe3 hbv
  dsimp only [Option.isSome]
  go_wp2_with fail
  refine HSame.out.mono ?_
  rintro _ _ ⟨rfl, rfl⟩
  have HU := hid (used_calls HS4.out.st)
  rw [show usedB (apB1 d one).l = one.length from by simp [usedB, apB1]] at HU
  clear HSame
  go_wp2_with fail
  refine HU.out.mono ?_
  rintro _ _ ⟨rfl, rfl⟩
  have HD := hid (drop_calls HS4.out.st d hd)
  rw [hlk, drop_one] at HD
  clear HU hlk
  go_wp2_with (refine wpList_load_blk_g (by rfl) 32 _ rfl o rfl 32 _ HBe4.out.2 _ _ Tryd.underlying32 HSZ.out ?_)
  refine HD.out.mono ?_
  rintro _ w5 ⟨rfl, ⟨f5, q1⟩, q3⟩
  have HS5 := hid (HS4.out.of q1 q3 (fun x hx => .inl hx)); have HBe5 := hid (HBe4.out.chg q3 (fun x hx => .inl hx))
  clear q1 q3 HD HS4 HBe4
  dsimp only [Option.isSome]
  have HP := hid (put_calls HS5.out.st d hd A2 c2 two (H2.out.keepB HS5.out.below).fit hc2 (by omega) (HS5.out.glob HG.out) (by omega))
  rw [p7, p8, p9] at HP
  go_wp2_with (refine wpList_load_blk rfl 32 _ rfl o rfl 32 _ HBe5.out.2 _ _ Tryd.underlying32 HSZ.out ?_)
  refine HP.out.mono ?_
  rintro _ w6 ⟨rfl, F6, k6, f6, q1, q6, q3, q4⟩
  have HS6 := hid (HS5.out.of q1 q3 q4); have HBe6 := hid (HBe5.out.chg q3 q4)
  clear q1 q3 q4 HP HS5 HBe5
  have HGe := hid (get_calls HS6.out.st d hd)
  rw [show lookB (apB1 d two).l d = some two from look_one d two] at HGe
  go_wp2_with (refine wpList_load_blk rfl 32 _ rfl o rfl 32 _ HBe6.out.2 _ _ Tryd.underlying32 HSZ.out ?_)
  refine HGe.out.mono ?_
  rintro _ w7 ⟨v, rfl, ho7, b7⟩
  have ho7 : Own w7 w6.heap.size 5 v two.length two := ho7
  obtain ⟨Aw, cw, rfl, hcw, hbv⟩ := BesV.of_own (F := F6) ho7 HS6.out.st.lt
  have HS7 := hid (HS6.out.keep b7)
  have HSame := hid (sameBytes_calls w7.heap.size two.length cw w.heap.size two.length c2 Aw A2 two two w7 hbv.1 (H2.out.keepB HS7.out.below))
  rw [beq_self_eq_true] at HSame
  clear b7 ho7 HGe HS6 HBe6 hbv
  dsimp only [Option.isSome]
  go_wp2_with fail
  refine HSame.out.mono ?_
  rintro _ _ ⟨rfl, rfl⟩
  go_wp2_with fail
  go_ret
  exact ⟨rfl, HS7.out.below⟩
end
end Go.Proofs.YtoogaapjdlhpbaaDoor
