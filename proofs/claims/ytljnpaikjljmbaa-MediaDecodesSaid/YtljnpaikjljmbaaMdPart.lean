/- Contracts: the parts that a writer is given: one thing, and parts one behind the other. -/
import Derived.Test.YtljnpaikjljmbaaMdMem
namespace Go.Proofs.Ytljnpaikjljmbaa
open Go.RowKit

/-- a function value: a function of the program, what stands ahead of its arguments, and what it holds -/
structure FnV where
  k : FuncId
  first : Array Value
  cap : Array Value
def fnV (f : FnV) : Value := .func (.func f.k) f.first f.cap
def EntersV (k : FuncId) : Prop := ∀ args w, (callFunc k args).run Try.prog w = .ok (.enter k args) w
def PtPost (w : World) (base g f : Nat) (r : Option Nat) (lim : Nat) (s' : WS) (w' : World) : Prop :=
  ∃ r', WrB w' base g f r' lim s' ∧ Chg (fpw g f r) w w' ∧ Moved w.heap.size r r'
/-- what a part does in every world that differs by what the writer did -/
def PartC (W : World) (base g f : Nat) (r0 : Option Nat) (lim : Nat) (v : FnV) (gs : List (List Item)) : Prop :=
  EntersV v.k ∧ ∀ w r s, Chg (fpw g f r0) W w → Moved W.heap.size r0 r → WrB w base g f r lim s → Calls Try.prog v.k (v.first ++ v.cap) w fun e w' => e = .returned (.tuple #[]) ∧ PtPost w base g f r lim (gs.foldl (putW lim) s) w'
section
variable {W W' : World} {base g f : Nat} {r0 r1 : Option Nat} {lim : Nat} {v : FnV} {gs : List (List Item)}
theorem PartC.chg (h : PartC W base g f r0 lim v gs) (hc : Chg (fpw g f r0) W W') (hm : Moved W.heap.size r0 r1) : PartC W' base g f r1 lim v gs :=
  ⟨h.1, fun w r s k m hw => h.2 w r s (hc.trans k (fpw_moved hm)) (hm.trans m hc.size) hw⟩
theorem PartC.keep (h : PartC W base g f r0 lim v gs) (hb : Below W.heap.size W W') : PartC W' base g f r0 lim v gs := h.chg (Chg.of_below hb) (Moved.refl _ _)
theorem PtPost.trans {w w1 w2 : World} {r : Option Nat} {s2 : WS} (hc : Chg (fpw g f r) w w1) (hm : Moved w.heap.size r r1) (h : PtPost w1 base g f r1 lim s2 w2) : PtPost w base g f r lim s2 w2 := by
  obtain ⟨r2, h1, k, m⟩ := h
  exact ⟨r2, h1, hc.trans k (fpw_moved hm), hm.trans m hc.size⟩
theorem PtPost.fresh {w w1 w2 : World} {r : Option Nat} {s2 : WS} (hb : Below w.heap.size w w1) (h : PtPost w1 base g f r lim s2 w2) : PtPost w base g f r lim s2 w2 := PtPost.trans (Chg.of_below hb) (Moved.refl _ _) h
theorem WrPost.part {w w' : World} {r : Option Nat} {s' : WS} {e : Ending} (h : WrPost w base g f r lim s' e w') : PtPost w base g f r lim s' w' := h.2
end
def bxFn (k : FuncId) (b : Nat) : FnV := ⟨k, #[], #[.pointer (some ⟨b, 0, none⟩), .pointer (some ⟨b + 1, 0, none⟩)]⟩
section
variable (base g f : Nat) (r : Option Nat) (lim : Nat) (w : World)
theorem ptNum1 (n : Int) (hn : lt63 n) (b : Nat) (s : WS) (h : WrB w base g f r lim s) (h0 : Blk w b 55 #[.func (.func 28) #[.pointer (some ⟨g, 0, none⟩)] #[]]) (h1 : Blk w (b + 1) 3 #[.int .i64 n]) :
    Calls Try.prog 57 (bxFn 0 b).cap w fun e w' => e = .returned (.tuple #[]) ∧ PtPost w base g f r lim (putW lim s [numI n]) w' := by
  have HC := hid (wNum_calls base g f r lim s w n hn h)
  have c0 := h0.cell 0 rfl
  have c1 := h1.cell 0 rfl
  generalize putW lim s [numI n] = s' at HC ⊢
  clear h h0 h1 hn
  unfold bxFn
  dsimp only
  go_enter Try.func57, Try.ntmps57
  go_wp2_with fail
  refine HC.out.mono ?_
  intro e w' hp
  have HK := hid hp.part
  obtain rfl := hp.ret
  clear hp
  go_wp2_with fail
  go_end0
  exact ⟨rfl, HK.out⟩
theorem ptText1 (cs : List UInt8) (hn : cs.length ≤ 549755813888) (b : Nat) (s : WS) (h : WrB w base g f r lim s) (h0 : Blk w b 56 #[.func (.func 29) #[.pointer (some ⟨g, 0, none⟩)] #[]]) (h1 : Blk w (b + 1) 9 #[.string (strB cs)]) :
    Calls Try.prog 58 (bxFn 0 b).cap w fun e w' => e = .returned (.tuple #[]) ∧ PtPost w base g f r lim (putW lim s [numI cs.length, some cs]) w' := by
  have HC := hid (wText_calls base g f r lim s w cs hn h)
  have c0 := h0.cell 0 rfl
  have c1 := h1.cell 0 rfl
  generalize putW lim s [numI cs.length, some cs] = s' at HC ⊢
  generalize strB cs = st at HC c1
  clear h h0 h1 hn
  unfold bxFn
  dsimp only
  go_enter Try.func58, Try.ntmps58
  go_wp2_with fail
  refine HC.out.mono ?_
  intro e w' hp
  have HK := hid hp.part
  obtain rfl := hp.ret
  clear hp
  go_wp2_with fail
  go_end0
  exact ⟨rfl, HK.out⟩
theorem ptID1 (l : List UInt8) (hl : l.length = 32) (b : Nat) (s : WS) (h : WrB w base g f r lim s) (h0 : Blk w b 95 #[.func (.func 82) #[.pointer (some ⟨g, 0, none⟩)] #[]]) (h1 : Blk w (b + 1) 23 (bcells l)) :
    Calls Try.prog 97 (bxFn 0 b).cap w fun e w' => e = .returned (.tuple #[]) ∧ PtPost w base g f r lim (putW lim s [some l]) w' := by
  have HC := hid (wID_calls base g f r lim s w l hl h)
  have ES : Hid ((Try.prog.info? 23).map (·.size) = some (bcells l).size) := size_id hl
  have c0 := h0.cell 0 rfl
  have K1 := hid h1
  generalize putW lim s [some l] = s' at HC ⊢
  clear h h0 h1 hl
  unfold bxFn
  dsimp only
  go_enter Try.func97, Try.ntmps97
  go_wp2_with (refine wpList_load_blk rfl 23 _ rfl (b + 1) rfl 23 _ K1.out _ _ Try.underlying23 ES.out ?_)
  refine HC.out.mono ?_
  intro e w' hp
  have HK := hid hp.part
  obtain rfl := hp.ret
  clear hp
  go_wp2_with fail
  go_end0
  exact ⟨rfl, HK.out⟩
theorem env_ne {b : Nat} (hfp : ∀ x ∈ fpw g f r, x < w.heap.size) (hb : w.heap.size ≤ b) : b ∉ fpw g f r := fun hm => by have := hfp b hm; omega
theorem oneNum_calls (n : Int) (hn : lt63 n) (hfp : ∀ x ∈ fpw g f r, x < w.heap.size) :
    Calls Try.prog 33 #[.func (.func 28) #[.pointer (some ⟨g, 0, none⟩)] #[], .int .i64 n] w fun e w' => ∃ v, e = .returned (fnV v) ∧ PartC w' base g f r lim v [[numI n]] ∧ Below w.heap.size w w' := by
  have hE : EntersV 57 := enters_of Try.func57 (by kernel_rfl) rfl
  obtain ⟨k0, k1, hb⟩ := two_new w #[.func (.func 28) #[.pointer (some ⟨g, 0, none⟩)] #[]] #[.int .i64 n] 55 3
  have hW : PartC ((w.alloc (.cells #[.func (.func 28) #[.pointer (some ⟨g, 0, none⟩)] #[]] 55)).alloc (.cells #[.int .i64 n] 3)) base g f r lim (bxFn 57 w.heap.size) [[numI n]] :=
    ⟨hE, fun w2 r2 s2 hc _ hw => ptNum1 base g f r2 lim w2 n hn w.heap.size s2 hw (k0.chg hc (env_ne g f r w hfp (Nat.le_refl _))) (k1.chg hc (env_ne g f r w hfp (by omega)))⟩
  have HW := hid hW; have HB := hid hb
  clear hE k0 k1 hb hW
  go_enter Try.func33, Try.ntmps33
  go_wp2_with fail
  go_ret
  exact ⟨bxFn 57 w.heap.size, rfl, HW.out, HB.out⟩
theorem oneText_calls (cs : List UInt8) (hn : cs.length ≤ 549755813888) (hfp : ∀ x ∈ fpw g f r, x < w.heap.size) :
    Calls Try.prog 34 #[.func (.func 29) #[.pointer (some ⟨g, 0, none⟩)] #[], .string (strB cs)] w fun e w' => ∃ v, e = .returned (fnV v) ∧ PartC w' base g f r lim v [[numI cs.length, some cs]] ∧ Below w.heap.size w w' := by
  have hE : EntersV 58 := enters_of Try.func58 (by kernel_rfl) rfl
  obtain ⟨k0, k1, hb⟩ := two_new w #[.func (.func 29) #[.pointer (some ⟨g, 0, none⟩)] #[]] #[.string (strB cs)] 56 9
  have hW : PartC ((w.alloc (.cells #[.func (.func 29) #[.pointer (some ⟨g, 0, none⟩)] #[]] 56)).alloc (.cells #[.string (strB cs)] 9)) base g f r lim (bxFn 58 w.heap.size) [[numI cs.length, some cs]] :=
    ⟨hE, fun w2 r2 s2 hc _ hw => ptText1 base g f r2 lim w2 cs hn w.heap.size s2 hw (k0.chg hc (env_ne g f r w hfp (Nat.le_refl _))) (k1.chg hc (env_ne g f r w hfp (by omega)))⟩
  generalize [[numI cs.length, some cs]] = its at hW ⊢
  generalize strB cs = st at hW hb ⊢
  have HW := hid hW; have HB := hid hb
  clear hE k0 k1 hb hW hn
  go_enter Try.func34, Try.ntmps34
  go_wp2_with fail
  go_ret
  exact ⟨bxFn 58 w.heap.size, rfl, HW.out, HB.out⟩
theorem oneID_calls (l : List UInt8) (hl : l.length = 32) (hfp : ∀ x ∈ fpw g f r, x < w.heap.size) :
    Calls Try.prog 81 #[.func (.func 82) #[.pointer (some ⟨g, 0, none⟩)] #[], .agg (bcells l)] w fun e w' => ∃ v, e = .returned (fnV v) ∧ PartC w' base g f r lim v [[some l]] ∧ Below w.heap.size w w' := by
  have hE : EntersV 97 := enters_of Try.func97 (by kernel_rfl) rfl
  obtain ⟨k0, k1, hb⟩ := two_new w #[.func (.func 82) #[.pointer (some ⟨g, 0, none⟩)] #[]] (bcells l) 95 23
  have hW : PartC ((w.alloc (.cells #[.func (.func 82) #[.pointer (some ⟨g, 0, none⟩)] #[]] 95)).alloc (.cells (bcells l) 23)) base g f r lim (bxFn 97 w.heap.size) [[some l]] :=
    ⟨hE, fun w2 r2 s2 hc _ hw => ptID1 base g f r2 lim w2 l hl w.heap.size s2 hw (k0.chg hc (env_ne g f r w hfp (Nat.le_refl _))) (k1.chg hc (env_ne g f r w hfp (by omega)))⟩
  generalize [[some l]] = its at hW ⊢
  have HW := hid hW; have HB := hid hb
  clear hE k0 k1 hb hW hl
  go_enter Try.func81, Try.ntmps81
  go_wp2_with fail
  go_ret
  exact ⟨bxFn 97 w.heap.size, rfl, HW.out, HB.out⟩
end
set_option maxHeartbeats 1000000 in
/-- parts, one behind the other -/
theorem ptWrite_calls (base g f : Nat) (r : Option Nat) (lim : Nat) (s : WS) (vs : List FnV) (gss : List (List (List Item))) (b off c n : Nat) (w : World) (hl : vs.length = n) (hl2 : gss.length = n) (hn2 : n ≤ 1099511627776) (h : WrB w base g f r lim s) (hbf : b ∉ fpw g f r) (hbl : b < w.heap.size)
    (hcell : ∀ (k : Nat) v, vs[k]? = some v → w.cell? ⟨b, off + k, none⟩ = some (fnV v))
    (hp : ∀ (k : Nat) v gs, vs[k]? = some v → gss[k]? = some gs → PartC w base g f r lim v gs) :
    Calls Try.prog 32 #[.slice (some ⟨b, off, none⟩) n c] w fun e w' => e = .returned (.tuple #[]) ∧ PtPost w base g f r lim (gss.flatten.foldl (putW lim) s) w' := by
  have H0 := hid h; have HC := hid hcell; have HP := hid hp; have HBF := hid hbf; have HBL := hid hbl
  have HR := hid (show (gss.drop 0).flatten.foldl (putW lim) s = gss.flatten.foldl (putW lim) s from rfl)
  generalize gss.flatten.foldl (putW lim) s = S' at HR ⊢
  clear h hcell hp hbf hbl
  go_enter Try.func32, Try.ntmps32
  go_wp2_with fail
  go_loopw [6] (fun v6 wr => ∃ (k : Nat) (r1 : Option Nat) (s1 : WS), v6 = .int .i64 (k : Int) ∧ k ≤ n ∧ Hid (WrB wr base g f r1 lim s1) ∧ Hid (Chg (fpw g f r) w wr) ∧ Hid (Moved w.heap.size r r1) ∧ Hid ((gss.drop k).flatten.foldl (putW lim) s1 = S')) (fun v6 _ => n - (intOf v6).toNat)
  case atStart => exact ⟨0, r, s, rfl, Nat.zero_le _, H0, hid (Chg.refl _ _), hid (Moved.refl _ _), HR⟩
  case round =>
    clear H0 HR
    obtain ⟨k, r1, s1, rfl, hk, HI, HG, HM, HR⟩ := hrel
    by_cases hlt : k < n
    · have hlt' : (k : Int) < (n : Int) := by omega
      obtain ⟨gs, hf⟩ : ∃ gs, gss[k]? = some gs := ⟨gss[k]'(by omega), List.getElem?_eq_getElem (by omega)⟩
      obtain ⟨v, hv⟩ : ∃ v, vs[k]? = some v := ⟨vs[k]'(by omega), List.getElem?_eq_getElem (by omega)⟩
      have hc := cell_chg (HC.out k v hv) HG.out HBF.out
      have hS := (HP.out k v gs hv hf).chg HG.out HM.out
      have hE := hS.1
      unfold EntersV at hE
      have HST := hid (hS.2 wr r1 s1 (Chg.refl _ _) (Moved.refl _ _) HI.out)
      have hd : gss.drop k = gs :: gss.drop (k + 1) := by
        have hkf : k < gss.length := by omega
        rw [List.drop_eq_getElem_cons hkf]
        rw [List.getElem?_eq_getElem hkf] at hf
        cases hf
        rfl
      rw [hd, List.flatten_cons, List.foldl_append] at HR
      obtain ⟨fk, first, cap⟩ := v
      unfold fnV at hc
      dsimp only at hc hE HST
      generalize gs.foldl (putW lim) s1 = s2 at HST HR
      clear hd hf hv hS HI
      go_wp2_with fail
      refine HST.out.mono ?_
      rintro _ w1 ⟨rfl, r2, h1, k1, m1⟩
      have HI := hid h1
      have HG2 := hid (HG.out.trans k1 (fpw_moved HM.out))
      have HM2 := hid (HM.out.trans m1 HG.out.size)
      clear h1 k1 m1 HST hc hE HG HM
      go_wp2_with fail
      go_roundw
      case rel => exact ⟨k + 1, r2, s2, by go_num, by omega, HI, HG2, HM2, HR⟩
      case measure => simp [intOf]; omega
    · obtain rfl : k = n := by omega
      have HE := hid (show s1 = S' from by
        have := HR.out
        rw [List.drop_of_length_le (by omega)] at this
        exact this)
      clear HR
      go_wp2_with fail
      go_end0
      exact ⟨rfl, r1, by rw [← HE.out]; exact HI.out, HG.out, HM.out⟩
end Go.Proofs.Ytljnpaikjljmbaa
