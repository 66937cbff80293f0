/- The law's starts and writes; the chapter's table. -/
import Derived.Test.YtgacdimjbpkgoaaDoorUpPut
import Derived.Lib.ConvBytes
namespace Go.Proofs.YtgacdimjbpkgoaaDoor
open Go.RowKit

/-- a text as bytes: a new row -/
theorem up_text_bytes {P : Program} {w : World} {ops : Array Oper} {rest : List Oper} {o : Oper} {a : Act} {Q : Exit → Act → World → Prop} (hgd : o.guard = none) (src dst e : TypeId) (x : Operand) (ho : o.op = .convert src dst x)
    (hs : P.underlying src = some .string) (hd : P.underlying dst = some (.slice e)) (he : P.underlying e = some (.int .u8)) (cs : List UInt8) (hx : a.eval x = .string (strB cs))
    (h : ∀ w' c, Below w.heap.size w w' → w'.heap.size = w.heap.size + 1 → SB w' w'.heap.size (some ⟨w.heap.size, 0, none⟩) cs.length cs → cs.length ≤ c → wpList P ops Q rest (a.put o.dst (.slice (some ⟨w.heap.size, 0, none⟩) cs.length c)) w') : wpList P ops Q (o :: rest) a w := by
  refine wpList_plain hgd fun K hK => ?_
  have hr := Lib.run_convert_string_bytes (P := P) w src dst e (strB cs) hs hd he
  have hsz := Lib.bytesWorld_size w e (strB cs)
  unfold Oper.wp execOp
  simp only [ho, hx, Sem.run_bind, Sem.run_pure, Result.andThen_ok, hr]
  refine hK _ _ (h _ _ ⟨rfl, rfl, rfl, by omega, fun k hk => Lib.bytesWorld_at_old w e (strB cs) k hk⟩ hsz ⟨rfl, fun _ => ⟨w.heap.size, 0, rfl, by omega, fun j y hj => ?_⟩⟩ (grownCap_ge w cs.length 0 e))
  have hlt : j < cs.length := (List.getElem?_eq_some_iff.1 hj).1
  have := Lib.bytesWorld_cell w e (strB cs) j hlt
  rw [Nat.zero_add, this]
  simp [strB, List.getD, hj, bv]
/-- Since w0 only new blocks have changed; some of them are a table. -/
def Up1 (w0 w : World) (t : Nat) (width next : Int) (ss : List US) : Prop := Below w0.heap.size w0 w ∧ ∃ sv qs, UpB w w0.heap.size t width next ss sv qs
section
variable {w0 w w1 : World} {t : Nat} {width next : Int} {ss : List US}
theorem Up1.keep (h : Up1 w0 w t width next ss) (hb : Below w.heap.size w w1) : Up1 w0 w1 t width next ss := by
  obtain ⟨h0, sv, qs, h1⟩ := h
  exact ⟨h0.trans (hb.mono h0.size), sv, qs, h1.keep hb⟩
theorem Up1.start (h : Up1 w0 w t width next ss) (r : ByteArray) (hrs : r.size ≤ 281474976710656) (hr : ∀ W, Below w.heap.size w W → Calls Tryd.prog 29 #[.string r] W fun e w' => e = .returned (.bool true) ∧ Below W.heap.size W w') (h8 : ss.length < 8) (hx0 : 1 ≤ next) (hx : next ≤ 1048576) :
    Calls Tryd.prog 8 #[.pointer (some ⟨t, 0, none⟩), .string r] w fun e w' => e = .returned (.tuple #[.int .i64 next, .int .i64 0]) ∧ Up1 w0 w' t width (next + 1) (ss ++ [US.mk' next r []]) := by
  obtain ⟨h0, sv, qs, h1⟩ := h
  exact (up_start h1 h0.size r hrs hr h8 hx0 hx).mono fun e w' ⟨he, sv', qs', hu, hc, _⟩ => ⟨he, h0.trans (hc.below (fun b hb => by
    rcases List.mem_cons.1 hb with rfl | hb
    · exact h1.ht
    · exact (World.ownsRow.lt h1.row b (by simpa using hb)).1) h0.size), sv', qs', hu⟩
theorem Up1.write (h : Up1 w0 w t width next ss) (hs : (nosOf ss).Pairwise (· < ·)) (hm : ss.length ≤ 1000000) (x : Int) (A : Option Addr) (n c : Nat) (bs : List UInt8) (hb : Below w.heap.size w w1) (hsb : SB w1 w1.heap.size A n bs) {s : US} (hss : ss[aheadN (nosOf ss) x]? = some s) (hno : hasNo ss x = true) (hl : s.len + n ≤ 4096) :
    Calls Tryd.prog 9 #[.pointer (some ⟨t, 0, none⟩), .int .i64 x, .int .i64 (s.len : Int), .slice A n c] w1 fun e w' => e = .returned (.tuple #[.int .i64 ((s.len + n : Nat) : Int), .int .i64 0]) ∧ Up1 w0 w' t width next (ss.set (aheadN (nosOf ss) x) (s.push bs)) := by
  obtain ⟨h0, sv, qs, h1⟩ := h.keep hb
  exact (up_write h1 h0.size hs hm x A n c bs hsb hss hno hl).mono fun e w' ⟨he, qs', hu, hc, _⟩ => ⟨he, h0.trans (hc.below (fun b hb => (h1.lt b hb).1) h0.size), sv, qs', hu⟩
end
section
variable {w0 w : World} {t : Nat} {width next : Int} {ss : List US}
set_option maxHeartbeats 1000000 in
theorem ul_starts (h : Up1 w0 w t width next ss) (r : ByteArray) (hrs : r.size ≤ 281474976710656) (hr : ∀ W, Calls Tryd.prog 29 #[.string r] W fun e w' => e = .returned (.bool true) ∧ Below W.heap.size W w') (h8 : ss.length < 8) (hx0 : 1 ≤ next) (hx : next ≤ 1048576) :
    Calls Tryd.prog 20 #[.pointer (some ⟨t, 0, none⟩), .string r, .int .i64 next, .int .i64 0] w fun e w' => e = .returned (.bool true) ∧ Up1 w0 w' t width (next + 1) (ss ++ [US.mk' next r []]) := by
  have HS := hid (h.start r hrs (fun W _ => hr W) h8 hx0 hx)
  clear h hrs hr h8 hx0 hx
  go_enter Tryd.func20, Tryd.ntmps20
  go_wp2_with fail
  refine HS.out.mono ?_
  rintro _ w1 ⟨rfl, hu⟩
  have HU := hid hu
  clear hu HS
  go_wp2_with fail
  go_ret
  exact ⟨rfl, HU.out⟩
set_option maxHeartbeats 1000000 in
theorem ul_starts_name (h : Up1 w0 w t width next ss) (r : ByteArray) (hr : ∀ W, Calls Tryd.prog 29 #[.string r] W fun e w' => e = .returned (.bool false) ∧ Below W.heap.size W w') :
    Calls Tryd.prog 20 #[.pointer (some ⟨t, 0, none⟩), .string r, .int .i64 0, .int .i64 7] w fun e w' => e = .returned (.bool true) ∧ Up1 w0 w' t width next ss := by
  have HK := hid h
  obtain ⟨h0, sv, qs, h1⟩ := h
  have HS := hid (up_start_name h1 r (fun W _ => hr W))
  clear h0 h1 hr
  go_enter Tryd.func20, Tryd.ntmps20
  go_wp2_with fail
  refine HS.out.mono ?_
  rintro _ w1 ⟨rfl, hu⟩
  have HU := hid (HK.out.keep hu)
  clear hu HS
  go_wp2_with fail
  go_ret
  exact ⟨rfl, HU.out⟩
set_option maxHeartbeats 1000000 in
theorem ul_writes (h : Up1 w0 w t width next ss) (hs : (nosOf ss).Pairwise (· < ·)) (hm : ss.length ≤ 1000000) (x : Int) (bs : List UInt8) {s : US} (hss : ss[aheadN (nosOf ss) x]? = some s) (hno : hasNo ss x = true) (n : Nat) (hn : bs.length = n) (hl : s.len + n ≤ 4096) (sl : Int) (hsl : (s.len : Int) = sl) (want : Int) (hw : ((s.len + n : Nat) : Int) = want) :
    Calls Tryd.prog 22 #[.pointer (some ⟨t, 0, none⟩), .int .i64 x, .int .i64 sl, .string (strB bs), .int .i64 want, .int .i64 0] w fun e w' => e = .returned (.bool true) ∧ Up1 w0 w' t width next (ss.set (aheadN (nosOf ss) x) (s.push bs)) := by
  have HS := hid (fun (W : World) A c (hb : Below w.heap.size w W) (hsb : SB W W.heap.size A n bs) => h.write hs hm x A n c bs hb hsb hss hno hl)
  rw [hsl, hw] at HS
  have HN := hid hn
  clear h hs hm hss hno hl hsl hw
  go_enter Tryd.func22, Tryd.ntmps22
  go_wp2_with ((refine up_text_bytes rfl 9 22 5 _ rfl Tryd.underlying9 Tryd.underlying22 Tryd.underlying5 bs rfl ?_); refine Held.go ?_)
  unfold Held
  intro w1 c1 hb1 hz1 hs1 hle1
  have HW := hid (HS.out w1 _ c1 hb1 hs1)
  clear hb1 hz1 hs1 hle1 HS
  go_wp2_with fail
  refine HW.out.mono ?_
  rintro _ w2 ⟨rfl, hu⟩
  have HU := hid hu
  clear hu HW
  go_wp2_with fail
  go_ret
  exact ⟨rfl, HU.out⟩
set_option maxHeartbeats 1000000 in
theorem ul_writes_off (h : Up1 w0 w t width next ss) (hs : (nosOf ss).Pairwise (· < ·)) (hm : ss.length ≤ 1000000) (x off : Int) (bs : List UInt8) {s : US} (hss : ss[aheadN (nosOf ss) x]? = some s) (hno : hasNo ss x = true) (ho : off ≠ (s.len : Int)) (want : Int) (hw : (s.len : Int) = want) :
    Calls Tryd.prog 22 #[.pointer (some ⟨t, 0, none⟩), .int .i64 x, .int .i64 off, .string (strB bs), .int .i64 want, .int .i64 13] w fun e w' => e = .returned (.bool true) ∧ Up1 w0 w' t width next ss := by
  have HS := hid (fun (W : World) A n c (hb : Below w.heap.size w W) => (show Calls Tryd.prog 9 #[.pointer (some ⟨t, 0, none⟩), .int .i64 x, .int .i64 off, .slice A n c] W fun e w' => e = .returned (.tuple #[.int .i64 want, .int .i64 13]) ∧ Up1 w0 w' t width next ss from by
    have hk := h.keep hb
    obtain ⟨h0, sv, qs, h1⟩ := h.keep hb
    rw [← hw]
    exact (up_write_off h1 hs hm x off A n c hss hno ho).mono fun e w' ⟨he, hb⟩ => ⟨he, hk.keep hb⟩))
  clear h hs hm hss hno hw ho
  go_enter Tryd.func22, Tryd.ntmps22
  go_wp2_with ((refine up_text_bytes rfl 9 22 5 _ rfl Tryd.underlying9 Tryd.underlying22 Tryd.underlying5 bs rfl ?_); refine Held.go ?_)
  unfold Held
  intro w1 c1 hb1 hz1 hs1 hle1
  have HW := hid (HS.out w1 (some ⟨w.heap.size, 0, none⟩) bs.length c1 hb1)
  clear hb1 hz1 hs1 hle1 HS
  go_wp2_with fail
  refine HW.out.mono ?_
  rintro _ w2 ⟨rfl, hu⟩
  have HU := hid hu
  clear hu HW
  go_wp2_with fail
  go_ret
  exact ⟨rfl, HU.out⟩
set_option maxHeartbeats 1000000 in
theorem ul_writes_long (h : Up1 w0 w t width next ss) (hs : (nosOf ss).Pairwise (· < ·)) (hm : ss.length ≤ 1000000) (x : Int) (bs : List UInt8) {s : US} (hss : ss[aheadN (nosOf ss) x]? = some s) (hno : hasNo ss x = true) (hl : s.len ≤ 4096) (hn : 4096 < s.len + bs.length) (want : Int) (hw : (s.len : Int) = want) :
    Calls Tryd.prog 22 #[.pointer (some ⟨t, 0, none⟩), .int .i64 x, .int .i64 want, .string (strB bs), .int .i64 want, .int .i64 4] w fun e w' => e = .returned (.bool true) ∧ Up1 w0 w' t width next ss := by
  have HS := hid (fun (W : World) A c (hb : Below w.heap.size w W) => (show Calls Tryd.prog 9 #[.pointer (some ⟨t, 0, none⟩), .int .i64 x, .int .i64 want, .slice A bs.length c] W fun e w' => e = .returned (.tuple #[.int .i64 want, .int .i64 4]) ∧ Up1 w0 w' t width next ss from by
    have hk := h.keep hb
    obtain ⟨h0, sv, qs, h1⟩ := h.keep hb
    rw [← hw]
    exact (up_write_long h1 hs hm x A bs.length c hss hno hl hn).mono fun e w' ⟨he, hb⟩ => ⟨he, hk.keep hb⟩))
  clear h hs hm hss hno hw hl hn
  go_enter Tryd.func22, Tryd.ntmps22
  go_wp2_with ((refine up_text_bytes rfl 9 22 5 _ rfl Tryd.underlying9 Tryd.underlying22 Tryd.underlying5 bs rfl ?_); refine Held.go ?_)
  unfold Held
  intro w1 c1 hb1 hz1 hs1 hle1
  have HW := hid (HS.out w1 (some ⟨w.heap.size, 0, none⟩) c1 hb1)
  clear hb1 hz1 hs1 hle1 HS
  go_wp2_with fail
  refine HW.out.mono ?_
  rintro _ w2 ⟨rfl, hu⟩
  have HU := hid hu
  clear hu HW
  go_wp2_with fail
  go_ret
  exact ⟨rfl, HU.out⟩
end
/-- the chapter's table behind its first line -/
def uR : ByteArray := strB [114]
def ss1 : List US := [⟨1, uR, []⟩]
def ss2 : List US := [⟨1, uR, [[97]]⟩]
def ss3 : List US := [⟨1, uR, [[97], [98]]⟩]
theorem repo_r (w : World) : Calls Tryd.prog 29 #[.string uR] w fun e w' => e = .returned (.bool true) ∧ Below w.heap.size w w' :=
  up_isRepo_ok uR [114] (by decide) (by decide) (by decide) (by unfold RDone; decide +kernel) w
theorem repo_R (w : World) : Calls Tryd.prog 29 #[.string (strB [82])] w fun e w' => e = .returned (.bool false) ∧ Below w.heap.size w w' :=
  up_isRepo_bad (strB [82]) [82] (by decide) (by decide) (by decide) (by unfold RDone; decide +kernel) w
set_option maxHeartbeats 2000000 in
set_option maxRecDepth 20000 in
theorem uone_calls (w0 w : World) (hb : Below w0.heap.size w0 w) : Calls Tryd.prog 16 #[] w fun e w' => ∃ t, e = .returned (.pointer (some ⟨t, 0, none⟩)) ∧ Up1 w0 w' t 32 2 ss3 := by
  have HB := hid hb
  clear hb
  go_enter Tryd.func16, Tryd.ntmps16
  go_wp2_with fail
  refine (up_new_table 32 (by omega) (by omega) w).mono ?_
  rintro _ w1 ⟨t, rfl, hu, hb⟩
  have H := hid (show Up1 w0 w1 t 32 1 [] from ⟨HB.out.trans (hb.mono HB.out.size), _, _, { hu with row := World.ownsRow_nil _ _ _ _, ht := Nat.le_trans HB.out.size hu.ht, each := fun k s x hs => by simp at hs }⟩)
  clear hu hb HB
  go_wp2_with fail
  refine (ul_starts H.out uR (by decide) repo_r (by decide) (by omega) (by omega)).mono ?_
  rintro _ w2 ⟨rfl, h⟩
  have H := hid (show Up1 w0 w2 t 32 2 ss1 from h)
  clear h
  go_wp2_with fail
  refine (ul_starts_name H.out (strB [82]) repo_R).mono ?_
  rintro _ w3 ⟨rfl, h⟩
  have H := hid h
  clear h
  go_wp2_with fail
  refine (ul_writes H.out (by decide) (by decide) 1 [97] (s := ⟨1, uR, []⟩) rfl (by decide) 1 rfl (by decide) 0 rfl 1 rfl).mono ?_
  rintro _ w4 ⟨rfl, h⟩
  have H := hid (show Up1 w0 w4 t 32 2 ss2 from h)
  clear h
  go_wp2_with fail
  refine (ul_writes_off H.out (by decide) (by decide) 1 0 [98] (s := ⟨1, uR, [[97]]⟩) rfl (by decide) (by decide) 1 rfl).mono ?_
  rintro _ w5 ⟨rfl, h⟩
  have H := hid h
  clear h
  go_wp2_with fail
  refine (ul_writes H.out (by decide) (by decide) 1 [98] (s := ⟨1, uR, [[97]]⟩) rfl (by decide) 1 rfl (by decide) 1 rfl 2 rfl).mono ?_
  rintro _ w6 ⟨rfl, h⟩
  have H := hid (show Up1 w0 w6 t 32 2 ss3 from h)
  clear h
  go_wp2_with fail
  go_ret
  exact ⟨t, rfl, H.out⟩
set_option maxHeartbeats 2000000 in
set_option maxRecDepth 20000 in
theorem uawake_calls (w : World) : Calls Tryd.prog 7 #[] w fun e w' => e = .returned (.bool true) ∧ Below w.heap.size w w' := by
  go_enter Tryd.func7, Tryd.ntmps7
  go_wp2_with fail
  refine (uone_calls w w (Below.refl _ _)).mono ?_
  rintro _ w1 ⟨t, rfl, h⟩
  obtain ⟨h0, sv, qs, h1⟩ := h
  have H0 := hid h0; have H1 := hid h1
  clear h0 h1
  go_wp2_with fail
  refine (up_offset_yes H1.out (by decide) (by decide) 1 (s := ⟨1, uR, [[97], [98]]⟩) rfl (by decide)).mono ?_
  rintro _ w2 ⟨rfl, hb⟩
  rw [show (((US.mk 1 uR [[97], [98]]).len : Int)) = 2 from rfl]
  have H0 := hid (H0.out.trans (hb.mono H0.out.size)); have H1 := hid (H1.out.keep hb)
  clear hb
  go_wp2_with fail
  refine (up_offset_no H1.out (by decide) (by decide) 2 (by decide)).mono ?_
  rintro _ w3 ⟨rfl, hb⟩
  have H0 := hid (H0.out.trans (hb.mono H0.out.size)); have H1 := hid (H1.out.keep hb)
  clear hb
  go_wp2_with fail
  refine (up_next H1.out.hd).mono ?_
  rintro _ _ ⟨rfl, rfl⟩
  go_wp2_with fail
  go_ret
  exact ⟨rfl, H0.out⟩
end Go.Proofs.YtgacdimjbpkgoaaDoor
