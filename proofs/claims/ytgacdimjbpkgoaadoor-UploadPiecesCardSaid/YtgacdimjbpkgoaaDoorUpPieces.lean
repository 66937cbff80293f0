/- Contract: all sessions, told in the order of their numbers. -/
import Derived.Test.YtgacdimjbpkgoaaDoorUpKnown
namespace Go.Proofs.YtgacdimjbpkgoaaDoor
open Go.RowKit

def toldR (ss : List US) (vs : List Value) : List Value := (List.zipWith (fun s v => [Value.int .i64 s.n, .string s.repo, v]) ss vs).flatten
theorem toldR_push (ss : List US) (vs : List Value) (s : US) (v : Value) (h : ss[vs.length]? = some s) : toldR ss (vs ++ [v]) = toldR ss vs ++ [.int .i64 s.n, .string s.repo, v] := by
  induction vs generalizing ss with
  | nil => cases ss with
    | nil => simp at h
    | cons a r => simp at h; subst h; simp [toldR]
  | cons x r ih => cases ss with
    | nil => simp at h
    | cons a l =>
      have := ih l (by simpa using h)
      unfold toldR at this ⊢
      simp only [List.cons_append, List.zipWith_cons_cons, List.flatten_cons, List.cons_append, List.nil_append]
      rw [this]
/-- what is told of sessions: a row of its own -/
structure LiS (B : Nat) (w : World) (r N : Nat) (ss : List US) (vs : List Value) : Prop where
  row : w.ownsRow B 37 3 (.slice (some ⟨r, 0, none⟩) vs.length N) vs.length (toldR ss vs)
  each : ∀ (k : Nat) (s : US) (v : Value), ss[k]? = some s → vs[k]? = some v → Own w B 5 v s.len s.ps.flatten
theorem LiS.keep {B : Nat} {w w' : World} {r N : Nat} {ss : List US} {vs : List Value} (h : LiS B w r N ss vs) (hb : Below w.heap.size w w') : LiS B w' r N ss vs :=
  ⟨World.ownsRow.kept h.row (grown_of_below hb none) (.inr (fun e => by cases e)), fun k s v h1 h2 => kept_below (h.each k s v h1 h2) hb⟩
theorem own_not {w : World} {B n size m base : Nat} {r N k : Nat} {v : Value} {bs : List UInt8} {xs : List Value} (h : Own w B 5 v n bs) (hr : w.ownsRow base 37 size (.slice (some ⟨r, 0, none⟩) k N) m xs) : v.ownBlock ≠ some r := fun e => (row_ty h e).ne (row_ty hr rfl) (by decide) rfl
theorem up_info_ses : (Tryd.prog.info? 37).map (fun i => (i.zero, i.size, i.bytes)) = some (some (.agg sesZ), 3, 48) := by kernel_rfl
set_option maxHeartbeats 4000000 in
set_option maxRecDepth 20000 in
theorem up_list {w : World} {base t : Nat} {width next : Int} {ss : List US} {sv : Value} {qs : List (Nat × Value × List Value)} (h : UpB w base t width next ss sv qs) (hm : ss.length ≤ 1000000) (hl : ∀ s ∈ ss, s.len ≤ 1000000) :
    Calls Tryd.prog 15 #[.pointer (some ⟨t, 0, none⟩)] w fun e w' => ∃ vs : List Value, e = .returned (.slice (some ⟨w.heap.size, 0, none⟩) ss.length ss.length) ∧ vs.length = ss.length ∧ LiS w.heap.size w' w.heap.size ss.length ss vs ∧ Below w.heap.size w w' := by
  have hv := up_valid h.hd
  obtain ⟨N, hN⟩ : ∃ N, ss.length = N := ⟨_, rfl⟩
  obtain ⟨A, c, hsv⟩ : ∃ A c, sv = .slice A N c := by
    rcases h.row.2 with ⟨e, h0⟩ | ⟨g, cap, cur, e, _⟩
    · exact ⟨_, _, by rw [e, ← hN, h0]⟩
    · exact ⟨_, _, by rw [e, hN]⟩
  have c3 : w.cell? ⟨t, 3, none⟩ = some (.slice A N c) := by rw [← hsv]; exact h.hd.cell 3 rfl
  have HT := hid (fun W (hb : Below w.heap.size w W) => (show W.cell? ⟨t, 3, none⟩ = some (.slice A N c) from by rw [← hsv]; exact (h.keep hb).hd.cell 3 rfl))
  have HV := hid hv
  have HQ := hid (fun W (hb : Below w.heap.size w W) (k : Nat) (hk : k < N) => (show ∃ b s q, A = some ⟨b, 0, none⟩ ∧ ss[k]? = some s ∧ W.cell? ⟨b, k, none⟩ = some (.pointer (some ⟨q, 0, none⟩)) ∧ Calls Tryd.prog 36 #[.pointer (some ⟨q, 0, none⟩)] W fun e w' => ∃ v, e = .returned (.agg #[.int .i64 s.n, .string s.repo, v]) ∧ Own w' W.heap.size 5 v s.len s.ps.flatten ∧ Below W.heap.size W w' from by
    have hu := h.keep hb
    have hk1 : k < ss.length := by omega
    have hkq : k < qs.length := by have := h.len; omega
    have hse := hu.each k ss[k] qs[k] (List.getElem?_eq_getElem hk1) (List.getElem?_eq_getElem hkq)
    obtain ⟨g, cap, hg⟩ : ∃ g cap, sv = .slice (some ⟨g, 0, none⟩) ss.length cap := by
      rcases h.row.2 with ⟨_, h0⟩ | ⟨g, cap, cur, e, _⟩
      · omega
      · exact ⟨g, cap, e⟩
    have hcell := World.ownsRow.cells hu.row (g := g) (by rw [hg]; rfl) k (.pointer (some ⟨qs[k].1, 0, none⟩)) (by simp [hkq])
    rw [Addr.add_lit, Nat.zero_add] at hcell
    rw [hsv] at hg
    cases hg
    exact ⟨g, ss[k], qs[k].1, rfl, List.getElem?_eq_getElem hk1, hcell, up_tell hse (hl _ (List.getElem_mem hk1))⟩))
  have hNN : N ≤ 1000000 := by omega
  obtain ⟨i, hi, hz, hsz, hby⟩ := info_parts up_info_ses
  obtain ⟨W2, hr, hown, hg⟩ := run_make_own (P := Tryd.prog) w w.heap.size 43 37 i _ 3 Tryd.underlying43 hi hz hsz .i64 .i64 N (by rw [hby]; omega) (by simp [maxLen]; omega) (Nat.le_refl _)
  have HB := hid (below_of_grown hg (Nat.le_refl _) (fun g e => by cases e))
  have c3' := HT.out W2 HB.out
  have HL := hid (show LiS w.heap.size W2 w.heap.size N ss [] from ⟨by simpa [toldR] using hown, fun k s v _ hv => by simp at hv⟩)
  have HI := hid (show (Tryd.prog.info? 37 = some i) ∧ i.size = 3 from ⟨hi, hsz⟩)
  have HNN := hid hNN; have HNL := hid hN
  rw [hN]
  clear hown hg hi hz hsz hby hv h hsv hm hl hNN hN
  go_enter Tryd.func15, Tryd.ntmps15
  go_wp2_with fail
  refine HV.out.mono ?_
  rintro _ _ ⟨rfl, rfl⟩
  go_wp2_with fail
  go_loopw [3, 20] (fun m i wr => ∃ vs : List Value, m = .slice (some ⟨w.heap.size, 0, none⟩) vs.length N ∧ i = .int .i64 (vs.length : Int) ∧ vs.length ≤ N ∧ Hid (LiS w.heap.size wr w.heap.size N ss vs) ∧ Hid (Below w.heap.size w wr)) (fun _ i _ => N - (intOf i).toNat)
  case atStart => exact ⟨[], rfl, rfl, Nat.zero_le _, HL, HB⟩
  case round =>
    obtain ⟨vs, rfl, rfl, hle, HLr, HBr⟩ := hrel
    obtain ⟨k, hk⟩ : ∃ k, vs.length = k := ⟨_, rfl⟩
    have HK := hid hk
    rw [hk] at hle ⊢
    clear hk HL HB hr c3 c3'
    by_cases hlt : k < N
    · have hlt' : (k : Int) < (N : Int) := by omega
      obtain ⟨b, s, q, rfl, hs, hcell, htell⟩ := HQ.out wr HBr.out k hlt
      have HS := hid hs; have HTE := hid htell
      have hks : IntKind.i64.wrap ((k : Int) + 1) = ((k + 1 : Nat) : Int) := by have := HNN.out; rw [IntWalk.i64_in _ (by omega)]; omega
      clear hs htell
      go_wp2_with fail
      refine HTE.out.mono ?_
      rintro _ w5 ⟨v, rfl, ho, b5⟩
      obtain ⟨Av, cv, rfl, -, -, -⟩ := ho.sb
      have b6 := below_new w5 (.cells #[.int .i64 s.n, .string s.repo, .slice Av s.len cv] 37)
      have kn := Blk.new w5 37 #[.int .i64 s.n, .string s.repo, .slice Av s.len cv]
      have hone : ∀ (j : Nat) u, [Value.int .i64 s.n, .string s.repo, .slice Av s.len cv][j]? = some u → (w5.alloc (.cells #[.int .i64 s.n, .string s.repo, .slice Av s.len cv] 37)).cell? ((⟨w5.heap.size, 0, none⟩ : Addr).add j) = some u := fun j u hu => by
        rw [Addr.add_lit, Nat.zero_add]
        exact kn.cell j (by simpa using hu)
      have h1c : ∀ u ∈ [Value.int .i64 s.n, .string s.repo, .slice Av s.len cv], u.oneCell' = true := fun u hu => by
        simp at hu
        rcases hu with rfl | rfl | rfl <;> rfl
      have L6 := hid ((HLr.out.keep b5).keep b6)
      have O6 := hid (kept_below (ho.lower HBr.out.size) b6)
      have B6 := hid (HBr.out.trans ((b5.trans (b6.mono b5.size)).mono HBr.out.size))
      have hrow := L6.out.row
      rw [HK.out] at hrow
      have HR := hid hrow; have H1 := hid hone; have H2 := hid h1c
      clear ho b5 b6 kn hone h1c hrow hcell HTE HLr HBr HV
      go_wp2_with (at_builtin; refine Held.go ?_)
      refine wpList_append_fits _ rfl _ _ 43 rfl w.heap.size 37 i 3 Tryd.underlying43 HI.out.1 HI.out.2 w.heap.size k N (toldR ss vs) rfl HR.out ⟨w5.heap.size, 0, none⟩ 1 1 [.int .i64 s.n, .string s.repo, .slice Av s.len cv] rfl rfl H1.out H2.out (by omega) ?_
      intro w7 hown hgr
      have L7 : LiS w.heap.size w7 w.heap.size N ss (vs ++ [.slice Av s.len cv]) := by
        refine ⟨?_, fun k' s' v' h1 h2 => ?_⟩
        · rw [toldR_push ss vs s _ (by rw [HK.out]; exact HS.out), List.length_append, HK.out]; exact hown
        · by_cases hkk : k' < vs.length
          · rw [List.getElem?_append_left hkk] at h2
            have ho := L6.out.each k' s' v' h1 h2
            exact World.ownsRow.kept ho hgr (.inr (own_not ho L6.out.row))
          · have hk2 := (List.getElem?_eq_some_iff.1 h2).1
            have hke : k' = vs.length := by simp at hk2; omega
            subst hke
            simp at h2
            subst h2
            rw [HK.out, HS.out] at h1
            cases h1
            exact World.ownsRow.kept O6.out hgr (.inr (own_not O6.out L6.out.row))
      have HL7 := hid L7
      have HB7 := hid (B6.out.trans (below_of_grown hgr B6.out.size (fun g e => by cases e; exact Nat.le_refl _)))
      clear L7 hown hgr L6 O6 HR H1 H2 B6
      go_wp2_with fail
      go_roundw
      case rel => exact ⟨vs ++ [.slice Av s.len cv], by rw [List.length_append, HK.out]; rfl, by rw [List.length_append, HK.out]; rfl, by rw [List.length_append, HK.out]; simp; omega, HL7, HB7⟩
      case measure => simp [intOf]; omega
    · have hge : ¬ (k : Int) < (N : Int) := by omega
      have hkn : k = N := by omega
      subst hkn
      go_wp2_with fail
      go_ret
      exact ⟨rfl, vs, HK.out, HLr.out, HBr.out⟩
end Go.Proofs.YtgacdimjbpkgoaaDoor
/- The law's starts and writes beside a digest that is kept. -/
namespace Go.Proofs.YtgacdimjbpkgoaaDoor
open Go.RowKit

/-- a table of a law's, and a digest -/
def Up2 (o : Nat) (cs : Array Value) (w0 w : World) (t : Nat) (width next : Int) (ss : List US) : Prop := Up1 w0 w t width next ss ∧ Blk w o 24 cs
section
variable {w0 w w1 : World} {t o : Nat} {cs : Array Value} {width next : Int} {ss : List US}
theorem Up2.keep (h : Up2 o cs w0 w t width next ss) (hb : Below w.heap.size w w1) : Up2 o cs w0 w1 t width next ss := ⟨h.1.keep hb, h.2.keep hb⟩
theorem Up2.start (h : Up2 o cs w0 w t width next ss) (r : ByteArray) (hrs : r.size ≤ 281474976710656) (hr : ∀ W, Below w.heap.size w W → Calls Tryd.prog 29 #[.string r] W fun e w' => e = .returned (.bool true) ∧ Below W.heap.size W w') (h8 : ss.length < 8) (hx0 : 1 ≤ next) (hx : next ≤ 1048576) :
    Calls Tryd.prog 8 #[.pointer (some ⟨t, 0, none⟩), .string r] w fun e w' => e = .returned (.tuple #[.int .i64 next, .int .i64 0]) ∧ Up2 o cs w0 w' t width (next + 1) (ss ++ [US.mk' next r []]) := by
  obtain ⟨⟨h0, sv, qs, h1⟩, hk⟩ := h
  have hin : ∀ b ∈ t :: sv.ownBlock.toList, b ∈ upF t sv qs := fun b hb => by
    rcases List.mem_cons.1 hb with rfl | hb
    · exact mem_upF.2 (.inl rfl)
    · exact mem_upF.2 (.inr (.inl (by simpa using hb)))
  exact (up_start h1 h0.size r hrs hr h8 hx0 hx).mono fun e w' ⟨he, sv', qs', hu, hc, _⟩ => ⟨he, ⟨h0.trans (hc.below (fun b hb => (h1.lt b (hin b hb)).1) h0.size), sv', qs', hu⟩, hk.chg hc (fun hm => h1.not_id hk.ty (hin _ hm))⟩
theorem Up2.write (h : Up2 o cs w0 w t width next ss) (hs : (nosOf ss).Pairwise (· < ·)) (hm : ss.length ≤ 1000000) (x : Int) (A : Option Addr) (n c : Nat) (bs : List UInt8) (hb : Below w.heap.size w w1) (hsb : SB w1 w1.heap.size A n bs) {s : US} (hss : ss[aheadN (nosOf ss) x]? = some s) (hno : hasNo ss x = true) (hl : s.len + n ≤ 4096) :
    Calls Tryd.prog 9 #[.pointer (some ⟨t, 0, none⟩), .int .i64 x, .int .i64 (s.len : Int), .slice A n c] w1 fun e w' => e = .returned (.tuple #[.int .i64 ((s.len + n : Nat) : Int), .int .i64 0]) ∧ Up2 o cs w0 w' t width next (ss.set (aheadN (nosOf ss) x) (s.push bs)) := by
  obtain ⟨⟨h0, sv, qs, h1⟩, hk⟩ := h.keep hb
  exact (up_write h1 h0.size hs hm x A n c bs hsb hss hno hl).mono fun e w' ⟨he, qs', hu, hc, _⟩ => ⟨he, ⟨h0.trans (hc.below (fun b hb => (h1.lt b hb).1) h0.size), sv, qs', hu⟩, hk.chg hc (h1.not_id hk.ty)⟩
set_option maxHeartbeats 1000000 in
theorem u2_starts (h : Up2 o cs w0 w t width next ss) (r : ByteArray) (hrs : r.size ≤ 281474976710656) (hr : ∀ W, Calls Tryd.prog 29 #[.string r] W fun e w' => e = .returned (.bool true) ∧ Below W.heap.size W w') (h8 : ss.length < 8) (hx0 : 1 ≤ next) (hx : next ≤ 1048576) :
    Calls Tryd.prog 20 #[.pointer (some ⟨t, 0, none⟩), .string r, .int .i64 next, .int .i64 0] w fun e w' => e = .returned (.bool true) ∧ Up2 o cs w0 w' t width (next + 1) (ss ++ [US.mk' next r []]) := by
  have HS := hid (h.start r hrs (fun W _ => hr W) h8 hx0 hx)
  clear h hrs hr h8 hx0 hx
  go_enter Tryd.func20, Tryd.ntmps20
  go_wp2_with fail
  refine HS.out.mono ?_
  rintro _ w1 ⟨rfl, hu⟩
  have HU := hid hu
  clear hu HS
  go_wp2_with fail
  go_ret
  exact ⟨rfl, HU.out⟩
set_option maxHeartbeats 1000000 in
theorem u2_writes (h : Up2 o cs w0 w t width next ss) (hs : (nosOf ss).Pairwise (· < ·)) (hm : ss.length ≤ 1000000) (x : Int) (bs : List UInt8) {s : US} (hss : ss[aheadN (nosOf ss) x]? = some s) (hno : hasNo ss x = true) (n : Nat) (hn : bs.length = n) (hl : s.len + n ≤ 4096) (sl : Int) (hsl : (s.len : Int) = sl) (want : Int) (hw : ((s.len + n : Nat) : Int) = want) :
    Calls Tryd.prog 22 #[.pointer (some ⟨t, 0, none⟩), .int .i64 x, .int .i64 sl, .string (strB bs), .int .i64 want, .int .i64 0] w fun e w' => e = .returned (.bool true) ∧ Up2 o cs w0 w' t width next (ss.set (aheadN (nosOf ss) x) (s.push bs)) := by
  have HS := hid (fun (W : World) A c (hb : Below w.heap.size w W) (hsb : SB W W.heap.size A n bs) => h.write hs hm x A n c bs hb hsb hss hno hl)
  rw [hsl, hw] at HS
  have HN := hid hn
  clear h hs hm hss hno hl hsl hw
  go_enter Tryd.func22, Tryd.ntmps22
  go_wp2_with ((refine up_text_bytes rfl 9 22 5 _ rfl Tryd.underlying9 Tryd.underlying22 Tryd.underlying5 bs rfl ?_); refine Held.go ?_)
  unfold Held
  intro w1 c1 hb1 hz1 hs1 hle1
  have HW := hid (HS.out w1 _ c1 hb1 hs1)
  clear hb1 hz1 hs1 hle1 HS
  go_wp2_with fail
  refine HW.out.mono ?_
  rintro _ w2 ⟨rfl, hu⟩
  have HU := hid hu
  clear hu HW
  go_wp2_with fail
  go_ret
  exact ⟨rfl, HU.out⟩
set_option maxHeartbeats 1000000 in
theorem u2_writes_off (h : Up2 o cs w0 w t width next ss) (hs : (nosOf ss).Pairwise (· < ·)) (hm : ss.length ≤ 1000000) (x off : Int) (bs : List UInt8) {s : US} (hss : ss[aheadN (nosOf ss) x]? = some s) (hno : hasNo ss x = true) (ho : off ≠ (s.len : Int)) (want : Int) (hw : (s.len : Int) = want) :
    Calls Tryd.prog 22 #[.pointer (some ⟨t, 0, none⟩), .int .i64 x, .int .i64 off, .string (strB bs), .int .i64 want, .int .i64 13] w fun e w' => e = .returned (.bool true) ∧ Up2 o cs w0 w' t width next ss := by
  have HS := hid (fun (W : World) A n c (hb : Below w.heap.size w W) => (show Calls Tryd.prog 9 #[.pointer (some ⟨t, 0, none⟩), .int .i64 x, .int .i64 off, .slice A n c] W fun e w' => e = .returned (.tuple #[.int .i64 want, .int .i64 13]) ∧ Up2 o cs w0 w' t width next ss from by
    have hk := h.keep hb
    obtain ⟨⟨h0, sv, qs, h1⟩, -⟩ := h.keep hb
    rw [← hw]
    exact (up_write_off h1 hs hm x off A n c hss hno ho).mono fun e w' ⟨he, hb⟩ => ⟨he, hk.keep hb⟩))
  clear h hs hm hss hno hw ho
  go_enter Tryd.func22, Tryd.ntmps22
  go_wp2_with ((refine up_text_bytes rfl 9 22 5 _ rfl Tryd.underlying9 Tryd.underlying22 Tryd.underlying5 bs rfl ?_); refine Held.go ?_)
  unfold Held
  intro w1 c1 hb1 hz1 hs1 hle1
  have HW := hid (HS.out w1 (some ⟨w.heap.size, 0, none⟩) bs.length c1 hb1)
  clear hb1 hz1 hs1 hle1 HS
  go_wp2_with fail
  refine HW.out.mono ?_
  rintro _ w2 ⟨rfl, hu⟩
  have HU := hid hu
  clear hu HW
  go_wp2_with fail
  go_ret
  exact ⟨rfl, HU.out⟩
set_option maxHeartbeats 1000000 in
theorem u2_writes_long (h : Up2 o cs w0 w t width next ss) (hs : (nosOf ss).Pairwise (· < ·)) (hm : ss.length ≤ 1000000) (x : Int) (bs : List UInt8) {s : US} (hss : ss[aheadN (nosOf ss) x]? = some s) (hno : hasNo ss x = true) (hl : s.len ≤ 4096) (hn : 4096 < s.len + bs.length) (want : Int) (hw : (s.len : Int) = want) :
    Calls Tryd.prog 22 #[.pointer (some ⟨t, 0, none⟩), .int .i64 x, .int .i64 want, .string (strB bs), .int .i64 want, .int .i64 4] w fun e w' => e = .returned (.bool true) ∧ Up2 o cs w0 w' t width next ss := by
  have HS := hid (fun (W : World) A c (hb : Below w.heap.size w W) => (show Calls Tryd.prog 9 #[.pointer (some ⟨t, 0, none⟩), .int .i64 x, .int .i64 want, .slice A bs.length c] W fun e w' => e = .returned (.tuple #[.int .i64 want, .int .i64 4]) ∧ Up2 o cs w0 w' t width next ss from by
    have hk := h.keep hb
    obtain ⟨⟨h0, sv, qs, h1⟩, -⟩ := h.keep hb
    rw [← hw]
    exact (up_write_long h1 hs hm x A bs.length c hss hno hl hn).mono fun e w' ⟨he, hb⟩ => ⟨he, hk.keep hb⟩))
  clear h hs hm hss hno hw hl hn
  go_enter Tryd.func22, Tryd.ntmps22
  go_wp2_with ((refine up_text_bytes rfl 9 22 5 _ rfl Tryd.underlying9 Tryd.underlying22 Tryd.underlying5 bs rfl ?_); refine Held.go ?_)
  unfold Held
  intro w1 c1 hb1 hz1 hs1 hle1
  have HW := hid (HS.out w1 (some ⟨w.heap.size, 0, none⟩) c1 hb1)
  clear hb1 hz1 hs1 hle1 HS
  go_wp2_with fail
  refine HW.out.mono ?_
  rintro _ w2 ⟨rfl, hu⟩
  have HU := hid hu
  clear hu HW
  go_wp2_with fail
  go_ret
  exact ⟨rfl, HU.out⟩
end
end Go.Proofs.YtgacdimjbpkgoaaDoor
/- Numbers in a row; the kit's Pick. -/
namespace Go.Proofs.YtgacdimjbpkgoaaDoor
open Go.RowKit

/-- In the world w the n cells from A on hold the numbers zs. -/
def SI (w : World) (A : Option Addr) (n : Nat) (zs : List Int) : Prop :=
  zs.length = n ∧ (0 < n → ∃ b off, A = some ⟨b, off, none⟩ ∧ ∀ j z, zs[j]? = some z → w.cell? ⟨b, off + j, none⟩ = some (.int .i64 z))
theorem SI.keep {w w' : World} {A : Option Addr} {n : Nat} {zs : List Int} (h : SI w A n zs) (hb : Below w.heap.size w w') : SI w' A n zs :=
  ⟨h.1, fun hn => by
    obtain ⟨b, off, e, hc⟩ := h.2 hn
    exact ⟨b, off, e, fun j x hj => (hb.cell (p := ⟨b, off + j, none⟩) (lt_of_cell (hc j x hj))).trans (hc j x hj)⟩⟩
theorem SI.at_ {w : World} {A : Option Addr} {n : Nat} {zs : List Int} (h : SI w A n zs) {k : Nat} (hk : k < n) : ∃ b off z, A = some ⟨b, off, none⟩ ∧ zs[k]? = some z ∧ w.cell? ⟨b, off + k, none⟩ = some (.int .i64 z) := by
  obtain ⟨b, off, e, hc⟩ := h.2 (by omega)
  have hl : k < zs.length := by have := h.1; omega
  exact ⟨b, off, zs[k], e, List.getElem?_eq_getElem hl, hc k _ (List.getElem?_eq_getElem hl)⟩
theorem tmod_low (x n : Int) (h : 0 < n) (hx : x.tmod n < 0) : x.tmod n + n = x % n := by
  have h1 := Int.tmod_eq_emod (a := x) (b := n)
  have h2 := Int.emod_nonneg x (show n ≠ 0 by omega)
  have h3 := Int.emod_lt_of_pos x h
  rw [h1] at hx ⊢
  split at hx
  · omega
  · have : (n.natAbs : Int) = n := by omega
    rename_i hh
    rw [if_neg hh, this]; omega
theorem tmod_high (x n : Int) (h : 0 < n) (hx : ¬ x.tmod n < 0) : x.tmod n = x % n := by
  have h1 := Int.tmod_eq_emod (a := x) (b := n)
  have h2 := Int.emod_nonneg x (show n ≠ 0 by omega)
  have h3 := Int.emod_lt_of_pos x h
  rw [h1] at hx ⊢
  split at hx
  · rename_i hh; rw [if_pos hh]; omega
  · rename_i hh
    have : (n.natAbs : Int) = n := by omega
    rw [this] at hx; omega

theorem pick_calls (x n : Int) (w : World) (h3 : 0 < n) (h4 : n ≤ 1099511627776) :
    Calls Tryd.prog 21 #[.int .i64 x, .int .i64 n] w fun e w' => e = .returned (.int .i64 (x % n)) ∧ w = w' := by
  by_cases hx : x.tmod n < 0
  · go_enter Tryd.func21, Tryd.ntmps21
    go_wp2_with fail
    go_ret
    refine ⟨ret_int ?_, rfl⟩
    have h2 := Int.emod_nonneg x (show n ≠ 0 by omega)
    have h5 := Int.emod_lt_of_pos x h3
    rw [tmod_low x n h3 hx]
    exact IntWalk.wrap64_in _ (by omega)
  · go_enter Tryd.func21, Tryd.ntmps21
    go_wp2_with fail
    go_ret
    exact ⟨ret_int (tmod_high x n h3 (by omega)), rfl⟩

end Go.Proofs.YtgacdimjbpkgoaaDoor
/- The law UploadPieces, walked. -/
namespace Go.Proofs.YtgacdimjbpkgoaaDoor
open Go.RowKit Crc

theorem repo_ab (w : World) : Calls Tryd.prog 29 #[.string (strB [97, 47, 98])] w fun e w' => e = .returned (.bool true) ∧ Below w.heap.size w w' :=
  up_isRepo_ok (strB [97, 47, 98]) [97, 47, 98] (by decide) (by decide) (by decide) (by unfold RDone; decide +kernel) w
theorem repo_c (w : World) : Calls Tryd.prog 29 #[.string (strB [99])] w fun e w' => e = .returned (.bool true) ∧ Below w.heap.size w w' :=
  up_isRepo_ok (strB [99]) [99] (by decide) (by decide) (by decide) (by unfold RDone; decide +kernel) w
/-- the two sessions behind k rounds -/
def ssP (ps : List (List UInt8)) (k : Nat) : List US := [⟨1, strB [97, 47, 98], ps⟩, ⟨2, strB [99], List.replicate k [121]⟩]
theorem ssP_up (ps : List (List UInt8)) (k : Nat) : (nosOf (ssP ps k)).Pairwise (· < ·) := (by decide : ([1, 2] : List Int).Pairwise (· < ·))
theorem len_push (s : US) (bs : List UInt8) : (s.push bs).ps.flatten = s.ps.flatten ++ bs := by
  unfold US.push
  split
  · rename_i h; subst h; simp
  · simp
theorem new_table (width : Int) (h1 : 1 ≤ width) (h2 : width ≤ 32) (w0 w : World) (hb : Below w0.heap.size w0 w) :
    Calls Tryd.prog 18 #[.int .i64 width] w fun e w' => ∃ t, e = .returned (.tuple #[.pointer (some ⟨t, 0, none⟩), .int .i64 0]) ∧ Up1 w0 w' t width 1 [] :=
  (up_new_table width h1 h2 w).mono fun e w' ⟨t, he, hu, hb'⟩ => ⟨t, he, hb.trans (hb'.mono hb.size), _, _, { hu with row := World.ownsRow_nil _ _ _ _, ht := Nat.le_trans hb.size hu.ht, each := fun k s x hs => by simp at hs }⟩
set_option maxRecDepth 100000 in
set_option maxHeartbeats 8000000 in
theorem uppieces_long (A : Option Addr) (n c : Nat) (Z : Option Addr) (m cz : Nat) (wd : Int) (w : World) (hG : Glob w) (hlong : 4096 < n ∨ 30 < m) :
    Calls Tryd.prog 5 #[.slice A n c, .slice Z m cz, .int .i64 wd] w fun e w' => e = .returned (.bool true) ∧ Below w.heap.size w w' := by
  have HK := hid (upknown_calls w hG)
  by_cases h1 : (4096 : Int) < (n : Int)
  · clear hlong hG
    go_enter Tryd.func5, Tryd.ntmps5
    go_wp2_with fail
    refine HK.out.mono ?_
    rintro _ w1 ⟨rfl, hb⟩
    have HB := hid hb
    clear hb HK
    go_wp2_with fail
    go_ret
    exact ⟨rfl, HB.out⟩
  · have h2 : (30 : Int) < (m : Int) := by omega
    clear hlong hG
    go_enter Tryd.func5, Tryd.ntmps5
    go_wp2_with fail
    refine HK.out.mono ?_
    rintro _ w1 ⟨rfl, hb⟩
    have HB := hid hb
    clear hb HK
    go_wp2_with fail
    go_ret
    exact ⟨rfl, HB.out⟩
theorem rep_len (k : Nat) : (⟨2, strB [99], List.replicate k [121]⟩ : US).len = k := by
  show (List.replicate k [(121 : UInt8)]).flatten.length = k
  rw [List.length_flatten]
  simp
theorem rep_push (k : Nat) : (⟨2, strB [99], List.replicate k [121]⟩ : US).push [121] = ⟨2, strB [99], List.replicate (k + 1) [121]⟩ := by
  unfold US.push
  rw [if_neg (by simp), List.replicate_succ']
set_option maxRecDepth 100000 in
set_option maxHeartbeats 8000000 in
theorem uppieces_short (A : Option Addr) (n c : Nat) (bs : List UInt8) (Z : Option Addr) (m cz : Nat) (zs : List Int) (wd : Int) (w : World) (hs : SB w w.heap.size A n bs) (hc : n ≤ c) (hz : SI w Z m zs) (hG : Glob w) (hn : n ≤ 4096) (hm : m ≤ 30) :
    Calls Tryd.prog 5 #[.slice A n c, .slice Z m cz, .int .i64 wd] w fun e w' => e = .returned (.bool true) ∧ Below w.heap.size w w' := by
  have HK := hid (upknown_calls w hG)
  have HS := hid hs; have HC := hid hc; have HZ := hid hz; have HG := hid hG; have HN := hid hn; have HM := hid hm
  have g1 : ¬ (4096 : Int) < (n : Int) := by omega
  have g2 : ¬ (30 : Int) < (m : Int) := by omega
  obtain ⟨q, hq⟩ : ∃ q, wd % 32 = q := ⟨_, rfl⟩
  have hq0 : 0 ≤ q := by rw [← hq]; exact Int.emod_nonneg _ (by decide)
  have hq1 : q < 32 := by rw [← hq]; exact Int.emod_lt_of_pos _ (by decide)
  have HP := hid (fun W => pick_calls wd 32 W (by omega) (by omega))
  rw [hq] at HP
  obtain ⟨wid, hwid⟩ : ∃ wid, 1 + q = wid := ⟨_, rfl⟩
  have hwr : IntKind.i64.wrap (1 + q) = wid := by rw [IntWalk.i64_in _ (by omega)]; exact hwid
  have HW1 := hid (show 1 ≤ wid by omega); have HW2 := hid (show wid ≤ 32 by omega)
  clear hs hc hz hG hn hm hq hq0 hq1 hwid
  go_enter Tryd.func5, Tryd.ntmps5
  go_wp2_with fail
  refine HK.out.mono ?_
  rintro _ w1 ⟨rfl, hb⟩
  have HB := hid hb
  clear hb HK
  go_wp2_with fail
  refine (HP.out w1).mono ?_
  rintro _ _ ⟨rfl, rfl⟩
  clear HP g1 g2
  go_wp2_with fail
  refine (new_table wid HW1.out HW2.out w w1 HB.out).mono ?_
  rintro _ w2 ⟨t, rfl, hu⟩
  have H2 := hid hu
  have HO := hid (own_of_calls w.heap.size n c A bs wid w2 (HS.out.keep hu.1) HC.out (HG.out.keep hu.1) (by have := HN.out; omega))
  have HE0 := hid (show cutE wid = 0 from by have := HW1.out; have := HW2.out; rw [cutE, if_neg (by omega)])
  rw [HE0.out] at HO
  have hdl := cutB_length (sha bs) wid (sha_length bs)
  obtain ⟨dg, hdg⟩ : ∃ dg, cutB (sha bs) wid = dg := ⟨_, rfl⟩
  rw [hdg] at HO hdl
  have EC : Hid ((Tryd.prog.info? 24).map (·.size) = some (bcells dg).size) := by rw [Hid, bcells_size, hdl]; exact (zero_of_info info26).2
  have Hsz : Hid ((bcells (zeroB 32)).size = (bcells dg).size) := by rw [Hid, bcells_size, bcells_size, hdl]; rfl
  have HDG := hid hdg; have HDL := hid hdl
  have hz := (zero_of_info info26).1
  clear hu hdg hdl hwr HB HE0
  go_wp2_with fail
  refine HO.out.mono ?_
  rintro _ w3 ⟨rfl, b3⟩
  have kn := Blk.new w3 24 (bcells (zeroB 32))
  have KN := hid kn
  have bn := below_new w3 (.cells (bcells (zeroB 32)) 24)
  have hb4 : Below w3.heap.size w3 ((w3.alloc (.cells (bcells (zeroB 32)) 24)).setRow w3.heap.size (bcells dg)) := bn.trans (below_of_grown (grown_setRow _ _ _) bn.size (fun g e => by cases e; exact Nat.le_refl _))
  have H4 := hid (show Up2 w3.heap.size (bcells dg) w ((w3.alloc (.cells (bcells (zeroB 32)) 24)).setRow w3.heap.size (bcells dg)) t wid 1 [] from ⟨(H2.out.keep b3).keep hb4, kn.setRow _⟩)
  clear b3 kn bn hb4 HO H2
  go_wp2_with (refine wpList_store_blk rfl 24 _ _ rfl w3.heap.size _ rfl rfl 24 _ KN.out EC.out Hsz.out (bcells_oneCell _) ?_; refine Held.go ?_)
  unfold Held
  generalize (w3.alloc (.cells (bcells (zeroB 32)) 24)).setRow w3.heap.size (bcells dg) = w4 at H4 ⊢
  generalize w3.heap.size = o at H4 ⊢
  clear KN Hsz hz
  go_wp2_with fail
  refine (u2_starts H4.out (strB [97, 47, 98]) (by decide) repo_ab (by decide) (by omega) (by omega)).mono ?_
  rintro _ w5 ⟨rfl, h⟩
  have H5 := hid (show Up2 o (bcells dg) w w5 t wid 2 [⟨1, strB [97, 47, 98], []⟩] from h)
  clear h H4
  go_wp2_with fail
  refine (u2_starts H5.out (strB [99]) (by decide) repo_c (by decide) (by omega) (by omega)).mono ?_
  rintro _ w6 ⟨rfl, h⟩
  have H6 := hid (show Up2 o (bcells dg) w w6 t wid 3 (ssP [] 0) from h)
  clear h H5
  go_wp2_with fail
  go_loopw [12, 13, 14] (fun va vi _ wr => ∃ (k a : Nat) (ps : List (List UInt8)), va = .int .i64 (a : Int) ∧ vi = .int .i64 (k : Int) ∧ k ≤ m + 1 ∧ a ≤ n ∧ Hid (ps.flatten = bs.take a) ∧ Hid (k = m + 1 → a = n) ∧ Hid (Up2 o (bcells dg) w wr t wid 3 (ssP ps k))) (fun _ vi _ _ => m + 1 - (intOf vi).toNat)
  case atStart => exact ⟨0, 0, [], rfl, rfl, Nat.zero_le _, Nat.zero_le _, hid (by simp), hid (fun e => by omega), H6⟩
  case round =>
    obtain ⟨k, a, ps, rfl, rfl, hk, ha, HF, HE, H⟩ := hrel
    have hak := HN.out; have hmk := HM.out
    by_cases hkm : k ≤ m
    · have hkm' : (k : Int) ≤ (m : Int) := by omega
      have hsub : IntKind.i64.wrap ((n : Int) - (a : Int)) = ((n - a : Nat) : Int) := by rw [IntWalk.i64_in _ (by omega)]; omega
      have hs1 : IntKind.i64.wrap (((n - a : Nat) : Int) + 1) = ((n - a + 1 : Nat) : Int) := by rw [IntWalk.i64_in _ (by omega)]; omega
      have ha1 : IntKind.i64.wrap ((a : Int) + 1) = (a : Int) + 1 := IntWalk.i64_in _ (by omega)
      have hk1 : IntKind.i64.wrap ((k : Int) + 1) = ((k + 1 : Nat) : Int) := by rw [IntWalk.i64_in _ (by omega)]; omega
      have hla : (⟨1, strB [97, 47, 98], ps⟩ : US).len = a := by show ps.flatten.length = a; rw [HF.out, List.length_take, HS.out.len]; omega
      obtain ⟨k1, hk1e⟩ : ∃ k1, k + 1 = k1 := ⟨_, rfl⟩
      rw [hk1e] at hk1
      by_cases hkl : k < m
      · have hkl' : (k : Int) < (m : Int) := by omega
        obtain ⟨b2, off2, z, hZe, -, hcz⟩ := (HZ.out.keep H.out.1.1).at_ hkl
        subst hZe
        have HPk := hid (pick_calls z ((n - a + 1 : Nat) : Int) wr (by omega) (by omega))
        obtain ⟨p, hp⟩ : ∃ p : Nat, (p : Int) = z % ((n - a + 1 : Nat) : Int) := ⟨(z % ((n - a + 1 : Nat) : Int)).toNat, by have := Int.emod_nonneg z (show ((n - a + 1 : Nat) : Int) ≠ 0 by omega); omega⟩
        have hpl : p ≤ n - a := by have := Int.emod_lt_of_pos z (show (0 : Int) < ((n - a + 1 : Nat) : Int) by omega); omega
        rw [← hp] at HPk
        have HPE := hid (show k = m → p = n - a from fun e => by omega)
        obtain ⟨e, he⟩ : ∃ e, a + p = e := ⟨_, rfl⟩
        have hap : IntKind.i64.wrap ((a : Int) + (p : Int)) = (e : Int) := by rw [IntWalk.i64_in _ (by omega)]; omega
        clear hp
        have HHE := hid he
        go_wp2_with fail
        refine HPk.out.mono ?_
        rintro _ _ ⟨rfl, rfl⟩
        clear HPk hcz
        go_wp2_with fail
        refine (u2_writes_off H.out (ssP_up ps k) (by simp [ssP]) 1 ((a : Int) + 1) [120] (s := ⟨1, strB [97, 47, 98], ps⟩) rfl rfl (by rw [hla]; omega) (a : Int) (by rw [hla])).mono ?_
        rintro _ w7 ⟨rfl, h⟩
        have e1 : e ≤ n := by omega
        have e2 : (a : Int) ≤ (e : Int) := by omega
        have e3 : (e : Int) ≤ (c : Int) := by have := HC.out; omega
        have e4 : (0 : Int) ≤ (a : Int) := by omega
        have e5 : a ≤ e := by omega
        have e6 : e ≤ c := by have := HC.out; omega
        obtain ⟨A2, hA2⟩ : ∃ A2, (if c = a then A else A.map (·.add a)) = A2 := ⟨_, rfl⟩
        have hsb := ((HS.out.keep h.1.1).drop ha HC.out).take (e - a) (by omega)
        rw [hA2] at hsb
        obtain ⟨x, hx⟩ : ∃ x, (bs.drop a).take (e - a) = x := ⟨_, rfl⟩
        have hxl : x.length = e - a := by rw [← hx, List.length_take, List.length_drop, HS.out.len]; omega
        rw [hx] at hsb
        have hr0 := run_str (P := Tryd.prog) hsb (c - a) 22 9 5 Tryd.underlying22 Tryd.underlying5 Tryd.underlying9
        obtain ⟨ps', hps, hpf⟩ : ∃ ps', (⟨1, strB [97, 47, 98], ps⟩ : US).push x = ⟨1, strB [97, 47, 98], ps'⟩ ∧ ps'.flatten = bs.take e := by
          have ht : bs.take a ++ x = bs.take e := by rw [← hx, ← he, Nat.add_sub_cancel_left, List.take_add]
          by_cases hxe : x = []
          · exact ⟨ps, by unfold US.push; rw [if_pos hxe], by rw [HF.out, ← ht, hxe, List.append_nil]⟩
          · exact ⟨ps ++ [x], by unfold US.push; rw [if_neg hxe], by rw [List.flatten_append, HF.out, ← ht]; simp⟩
        have HW := hid (u2_writes h (ssP_up ps k) (by simp [ssP]) 1 x (s := ⟨1, strB [97, 47, 98], ps⟩) rfl rfl (e - a) hxl (by rw [hla]; omega) (a : Int) (by rw [hla]) (e : Int) (by rw [hla]; omega))
        have HPS := hid hps; have HPF := hid hpf
        clear h H hx hxl hsb hps hpf
        go_wp2_with fail
        refine HW.out.mono ?_
        rintro _ w8 ⟨rfl, h⟩
        have H8 := hid (show Up2 o (bcells dg) w w8 t wid 3 (ssP ps' k) from by rw [show ssP ps' k = (ssP ps k).set (aheadN (nosOf (ssP ps k)) 1) ((⟨1, strB [97, 47, 98], ps⟩ : US).push x) from by rw [HPS.out]; rfl]; exact h)
        have HW2' := hid (u2_writes H8.out (ssP_up ps' k) (by simp [ssP]) 2 [121] (s := ⟨2, strB [99], List.replicate k [121]⟩) rfl rfl 1 rfl (by rw [rep_len]; omega) (k : Int) (by rw [rep_len]) (k1 : Int) (by rw [rep_len]; omega))
        clear h HW hr0 hA2
        go_wp2_with fail
        refine HW2'.out.mono ?_
        rintro _ w9 ⟨rfl, h⟩
        have H9 := hid (show Up2 o (bcells dg) w w9 t wid 3 (ssP ps' k1) from by rw [show ssP ps' k1 = (ssP ps' k).set (aheadN (nosOf (ssP ps' k)) 2) ((⟨2, strB [99], List.replicate k [121]⟩ : US).push [121]) from by rw [rep_push, ← hk1e]; rfl]; exact h)
        clear h HW2' H8
        go_wp2_with fail
        go_roundw
        case rel => exact ⟨k1, e, ps', rfl, rfl, by omega, by omega, HPF, hid (fun ee => by have := HPE.out (by omega); omega), H9⟩
        case measure => simp [intOf]; omega
      · have hkl' : ¬ (k : Int) < (m : Int) := by omega
        obtain ⟨p, hp⟩ : ∃ p, n - a = p := ⟨_, rfl⟩
        have hpl : p ≤ n - a := by omega
        rw [hp] at hsub
        have HPE := hid (show k = m → p = n - a from fun _ => hp.symm)
        obtain ⟨e, he⟩ : ∃ e, a + p = e := ⟨_, rfl⟩
        have hap : IntKind.i64.wrap ((a : Int) + (p : Int)) = (e : Int) := by rw [IntWalk.i64_in _ (by omega)]; omega
        have HHE := hid he
        clear hs1
        go_wp2_with fail
        refine (u2_writes_off H.out (ssP_up ps k) (by simp [ssP]) 1 ((a : Int) + 1) [120] (s := ⟨1, strB [97, 47, 98], ps⟩) rfl rfl (by rw [hla]; omega) (a : Int) (by rw [hla])).mono ?_
        rintro _ w7 ⟨rfl, h⟩
        have e1 : e ≤ n := by omega
        have e2 : (a : Int) ≤ (e : Int) := by omega
        have e3 : (e : Int) ≤ (c : Int) := by have := HC.out; omega
        have e4 : (0 : Int) ≤ (a : Int) := by omega
        have e5 : a ≤ e := by omega
        have e6 : e ≤ c := by have := HC.out; omega
        obtain ⟨A2, hA2⟩ : ∃ A2, (if c = a then A else A.map (·.add a)) = A2 := ⟨_, rfl⟩
        have hsb := ((HS.out.keep h.1.1).drop ha HC.out).take (e - a) (by omega)
        rw [hA2] at hsb
        obtain ⟨x, hx⟩ : ∃ x, (bs.drop a).take (e - a) = x := ⟨_, rfl⟩
        have hxl : x.length = e - a := by rw [← hx, List.length_take, List.length_drop, HS.out.len]; omega
        rw [hx] at hsb
        have hr0 := run_str (P := Tryd.prog) hsb (c - a) 22 9 5 Tryd.underlying22 Tryd.underlying5 Tryd.underlying9
        obtain ⟨ps', hps, hpf⟩ : ∃ ps', (⟨1, strB [97, 47, 98], ps⟩ : US).push x = ⟨1, strB [97, 47, 98], ps'⟩ ∧ ps'.flatten = bs.take e := by
          have ht : bs.take a ++ x = bs.take e := by rw [← hx, ← he, Nat.add_sub_cancel_left, List.take_add]
          by_cases hxe : x = []
          · exact ⟨ps, by unfold US.push; rw [if_pos hxe], by rw [HF.out, ← ht, hxe, List.append_nil]⟩
          · exact ⟨ps ++ [x], by unfold US.push; rw [if_neg hxe], by rw [List.flatten_append, HF.out, ← ht]; simp⟩
        have HW := hid (u2_writes h (ssP_up ps k) (by simp [ssP]) 1 x (s := ⟨1, strB [97, 47, 98], ps⟩) rfl rfl (e - a) hxl (by rw [hla]; omega) (a : Int) (by rw [hla]) (e : Int) (by rw [hla]; omega))
        have HPS := hid hps; have HPF := hid hpf
        clear h H hx hxl hsb hps hpf
        go_wp2_with fail
        refine HW.out.mono ?_
        rintro _ w8 ⟨rfl, h⟩
        have H8 := hid (show Up2 o (bcells dg) w w8 t wid 3 (ssP ps' k) from by rw [show ssP ps' k = (ssP ps k).set (aheadN (nosOf (ssP ps k)) 1) ((⟨1, strB [97, 47, 98], ps⟩ : US).push x) from by rw [HPS.out]; rfl]; exact h)
        have HW2' := hid (u2_writes H8.out (ssP_up ps' k) (by simp [ssP]) 2 [121] (s := ⟨2, strB [99], List.replicate k [121]⟩) rfl rfl 1 rfl (by rw [rep_len]; omega) (k : Int) (by rw [rep_len]) (k1 : Int) (by rw [rep_len]; omega))
        clear h HW hr0 hA2
        go_wp2_with fail
        refine HW2'.out.mono ?_
        rintro _ w9 ⟨rfl, h⟩
        have H9 := hid (show Up2 o (bcells dg) w w9 t wid 3 (ssP ps' k1) from by rw [show ssP ps' k1 = (ssP ps' k).set (aheadN (nosOf (ssP ps' k)) 2) ((⟨2, strB [99], List.replicate k [121]⟩ : US).push [121]) from by rw [rep_push, ← hk1e]; rfl]; exact h)
        clear h HW2' H8
        go_wp2_with fail
        go_roundw
        case rel => exact ⟨k1, e, ps', rfl, rfl, by omega, by omega, HPF, hid (fun ee => by have := HPE.out (by omega); omega), H9⟩
        case measure => simp [intOf]; omega
    · have hkm' : ¬ (k : Int) ≤ (m : Int) := by omega
      have hke : k = m + 1 := by omega
      obtain rfl : a = n := HE.out hke
      have hfl : ps.flatten = bs := by rw [HF.out]; exact List.take_of_length_le (by rw [HS.out.len]; omega)
      have hla : (⟨1, strB [97, 47, 98], ps⟩ : US).len = a := by show ps.flatten.length = a; rw [hfl, HS.out.len]
      obtain ⟨D, hD⟩ : ∃ D, 4096 - a = D := ⟨_, rfl⟩
      obtain ⟨L, hL⟩ : ∃ L, D + 1 = L := ⟨_, rfl⟩
      have hs1 : IntKind.i64.wrap (4096 - (a : Int)) = (D : Int) := by rw [IntWalk.i64_in _ (by omega)]; omega
      have hs2 : IntKind.i64.wrap ((D : Int) + 1) = (L : Int) := by rw [IntWalk.i64_in _ (by omega)]; omega
      have hm1 : IntKind.i64.wrap ((m : Int) + 1) = (k : Int) := by rw [IntWalk.i64_in _ (by omega)]; omega
      obtain ⟨i, hi, hz, hsz, hby⟩ := info_parts up_info_u8
      obtain ⟨w7, hmk, r1, r2⟩ := run_make_full (P := Tryd.prog) wr wr.heap.size 22 5 i _ 1 Tryd.underlying22 hi hz hsz .i64 .i64 L (by rw [hby]; omega) (by simp [maxLen]; omega) (Nat.le_refl _)
      rw [show Value.cells (.int .u8 0) = #[Value.int .u8 0] from rfl, toList_madeCells_one, Nat.mul_one] at r1
      have hown : Own w7 wr.heap.size 5 (.slice (some ⟨wr.heap.size, 0, none⟩) L L) L (List.replicate L 0) := by rw [Own, List.map_replicate]; exact r1
      obtain ⟨_, _, ee, -, hsb, -⟩ := hown.sb
      cases ee
      have hr0 := run_str (P := Tryd.prog) hsb L 22 9 5 Tryd.underlying22 Tryd.underlying5 Tryd.underlying9
      have b7 := below_of_grown r2 (Nat.le_refl _) (fun g e => by cases e)
      have HW := hid (u2_writes_long (H.out.keep b7) (ssP_up ps k) (by simp [ssP]) 1 (List.replicate L 0) (s := ⟨1, strB [97, 47, 98], ps⟩) rfl rfl (by rw [hla]; omega) (by rw [hla, List.length_replicate]; omega) (a : Int) (by rw [hla]))
      have HLA := hid hla; have HFL := hid hfl; have HKE := hid hke
      clear hi hz hsz hby r1 r2 hown hsb b7 H HF HE hfl hla hD hL hke hak
      go_wp2_with fail
      refine HW.out.mono ?_
      rintro _ w8 ⟨rfl, h⟩
      have H8 := hid h
      have HFI := hid (show Calls Tryd.prog 11 #[.pointer (some ⟨t, 0, none⟩), .int .i64 1, .agg (bcells dg)] w8 fun e w' => ∃ v, e = .returned (.tuple #[.agg #[.int .i64 1, .string (strB [97, 47, 98]), v], .int .i64 0]) ∧ Own w' w8.heap.size 5 v a bs ∧ Up1 w w' t wid 3 [⟨2, strB [99], List.replicate k [121]⟩] from
        (h.1.finish_yes (ssP_up ps k) (by simp [ssP]) 1 rfl (s := ⟨1, strB [97, 47, 98], ps⟩) rfl (by rw [HLA.out]; have := HN.out; omega) HG.out HW1.out HW2.out dg HDL.out (by rw [show (⟨1, strB [97, 47, 98], ps⟩ : US).ps.flatten = bs from HFL.out, HDG.out]; exact beq_self_eq_true dg)).mono fun e w' ⟨v, he, ho, hu, _⟩ => ⟨v, he, by rw [HLA.out, show (⟨1, strB [97, 47, 98], ps⟩ : US).ps.flatten = bs from HFL.out] at ho; exact ho, hu⟩)
      clear h HW hr0
      go_wp2_with (refine wpList_load_blk rfl 24 _ rfl o rfl 24 _ H8.out.2 _ _ Tryd.underlying24 EC.out ?_)
      refine HFI.out.mono ?_
      rintro _ w9 ⟨v, rfl, ho, hu⟩
      obtain ⟨Av, cv, rfl, -, hsb, -⟩ := ho.sb
      obtain ⟨w10, e10, kz, k10, b10⟩ := up_laid w9 #[.int .i64 1, .string (strB [97, 47, 98]), .slice Av a cv]
      have H10 := hid (hu.keep b10); have KZ := hid kz; have E10 := hid e10; have K10 := hid k10; have S10 := hid (hsb.keep b10)
      clear ho hu hsb b10 kz e10 k10 HFI H8
      go_wp2_with (refine wpList_store_blk rfl 37 _ _ rfl w9.heap.size #[.int .i64 1, .string (strB [97, 47, 98]), .slice Av a cv] rfl rfl 37 _ KZ.out up_size_ses rfl rfl ?_; refine Held.go ?_)
      unfold Held
      rw [← E10.out]
      clear KZ E10
      generalize w9.heap.size = q9 at K10 S10 ⊢
      obtain ⟨hb10, sv, qs, hu⟩ := H10.out
      have HLI := hid (up_list hu (by simp) (fun s hs => by rw [List.mem_singleton.1 hs, rep_len]; have := HKE.out; have := HM.out; omega))
      have HB10 := hid hb10
      clear hu hb10 H10
      go_wp2_with fail
      refine HLI.out.mono ?_
      rintro _ w11 ⟨vs, rfl, hvl, hli, b11⟩
      obtain ⟨v2, rfl⟩ : ∃ v2, vs = [v2] := by
        rcases vs with _ | ⟨v2, _ | ⟨_, _⟩⟩
        · simp at hvl
        · exact ⟨v2, rfl⟩
        · simp at hvl
      have ho2 := hli.each 0 _ v2 rfl rfl
      rw [rep_len] at ho2
      obtain ⟨A2, c2, rfl, -, -, -⟩ := ho2.sb
      obtain ⟨r, hre⟩ : ∃ r, w10.heap.size = r := ⟨_, rfl⟩
      rw [hre] at hli ⊢
      have r0 := World.ownsRow.cells hli.row (g := r) rfl 0 (.int .i64 2) rfl
      have r2 := World.ownsRow.cells hli.row (g := r) rfl 2 (.slice A2 k c2) rfl
      rw [Addr.add_lit] at r0 r2
      simp only [Nat.zero_add] at r0 r2
      have k11 := K10.out.keep b11
      have d0 : w11.cell? ⟨q9, 0, none⟩ = some (.int .i64 1) := k11.cell 0 rfl
      have d1 : w11.cell? ⟨q9, 1, none⟩ = some (.string (strB [97, 47, 98])) := k11.cell 1 rfl
      have d2 : w11.cell? ⟨q9, 2, none⟩ = some (.slice Av a cv) := k11.cell 2 rfl
      have hb11 := HB10.out.trans (b11.mono HB10.out.size)
      have HSS := hid (up_sameSession 1 (strB [97, 47, 98]) Av A a cv a c _ _ bs w11 (S10.out.keep b11) (HS.out.keep hb11))
      have HB11 := hid hb11
      have HR := hid (fun W (hb : Below w11.heap.size w11 W) => (show W.cell? ⟨r, 0, none⟩ = some (.int .i64 2) ∧ W.cell? ⟨r, 2, none⟩ = some (.slice A2 k c2) from ⟨(hb.cell (p := ⟨r, 0, none⟩) (lt_of_cell r0)).trans r0, (hb.cell (p := ⟨r, 2, none⟩) (lt_of_cell r2)).trans r2⟩))
      clear hvl hli b11 ho2 hre r0 r2 k11 hb11 HLI HB10 K10 S10
      go_wp2_with fail
      refine HSS.out.mono ?_
      rintro _ w12 ⟨rfl, b12⟩
      obtain ⟨r0, r2⟩ := HR.out w12 b12
      have HB12 := hid (HB11.out.trans (b12.mono HB11.out.size))
      clear b12 HSS HR HB11 d0 d1 d2
      go_wp2_with fail
      go_ret
      exact ⟨rfl, HB12.out⟩
theorem si_of {w : World} {x : Addr} {l c : Nat} {zs : List Int} (hl : l ≤ c) (hz : zs.length = c) (hcell : ∀ i, i < zs.length → w.cell? (x.add i) = some (.int .i64 (zs.getD i 0))) : ∃ zs, SI w (some x) l zs := by
  refine ⟨zs.take l, by simp; omega, fun hn => ?_⟩
  have h0 := hcell 0 (by omega)
  have hspot : x.spot = none := by simpa [Addr.add] using World.cell?_spot h0
  obtain ⟨b, off, spot⟩ := x
  simp only at hspot
  subst hspot
  simp only [Addr.add_lit] at hcell
  refine ⟨b, off, rfl, fun j z hj => ?_⟩
  rw [List.getElem?_take] at hj
  split at hj
  · have hjl : j < zs.length := by omega
    rw [hcell j hjl, List.getD, hj]; rfl
  · cases hj
theorem uppieces_calls (A : Option Addr) (n c : Nat) (bs : List UInt8) (Z : Option Addr) (m cz : Nat) (zs : List Int) (wd : Int) (w : World) (hs : SB w w.heap.size A n bs) (hc : n ≤ c) (hz : SI w Z m zs) (hG : Glob w) :
    Calls Tryd.prog 5 #[.slice A n c, .slice Z m cz, .int .i64 wd] w fun e w' => e = .returned (.bool true) ∧ Below w.heap.size w w' := by
  by_cases h : n ≤ 4096 ∧ m ≤ 30
  · exact uppieces_short A n c bs Z m cz zs wd w hs hc hz hG h.1 h.2
  · exact uppieces_long A n c Z m cz wd w hG (by omega)
end Go.Proofs.YtgacdimjbpkgoaaDoor
