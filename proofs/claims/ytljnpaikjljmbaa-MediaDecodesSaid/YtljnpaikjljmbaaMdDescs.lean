/- Contract: the part that writes descriptions. Written by tools/mkmd.py out of XMdDescs.tpl. -/
import Derived.Test.YtljnpaikjljmbaaMdDesc
namespace Go.Proofs.Ytljnpaikjljmbaa
open Go.RowKit

def listG (ds : List DD) : List (List Item) := [numI ds.length] :: ds.flatMap descG
theorem desc_calls (g : Nat) (d : DD) (w : World) :
    Calls Try.prog 61 #[.pointer (some ⟨g, 0, none⟩), .agg (dcs d).toArray] w fun e w' => e = .returned (fnV (bxFn 80 w.heap.size)) ∧ Blk w' w.heap.size 52 #[.pointer (some ⟨g, 0, none⟩)] ∧ Blk w' (w.heap.size + 1) 25 (dcs d).toArray ∧ Below w.heap.size w w' := by
  generalize (dcs d).toArray = cs
  have HB := hid (two_new w #[.pointer (some ⟨g, 0, none⟩)] cs 52 25)
  go_enter Try.func61, Try.ntmps61
  go_wp2_with fail
  go_ret
  exact ⟨rfl, HB.out⟩
theorem enters_desc1 : EntersV 80 := enters_of Try.func80 (by kernel_rfl) rfl
theorem enters_one1 : EntersV 57 := enters_of Try.func57 (by kernel_rfl) rfl
theorem oneNum_env (g : Nat) (n : Int) (w : World) :
    Calls Try.prog 33 #[.func (.func 28) #[.pointer (some ⟨g, 0, none⟩)] #[], .int .i64 n] w fun e w' => e = .returned (fnV (bxFn 57 w.heap.size)) ∧ Blk w' w.heap.size 55 #[.func (.func 28) #[.pointer (some ⟨g, 0, none⟩)] #[]] ∧ Blk w' (w.heap.size + 1) 3 #[.int .i64 n] ∧ Below w.heap.size w w' := by
  have HB := hid (two_new w #[.func (.func 28) #[.pointer (some ⟨g, 0, none⟩)] #[]] #[.int .i64 n] 55 3)
  go_enter Try.func33, Try.ntmps33
  go_wp2_with fail
  go_ret
  exact ⟨rfl, HB.out⟩
/-- the boxes of the part that writes a description -/
def DEnv (W : World) (g b : Nat) (d : DD) : Prop := Blk W b 52 #[.pointer (some ⟨g, 0, none⟩)] ∧ Blk W (b + 1) 25 (dcs d).toArray
def NEnv (W : World) (g b : Nat) (n : Int) : Prop := Blk W b 55 #[.func (.func 28) #[.pointer (some ⟨g, 0, none⟩)] #[]] ∧ Blk W (b + 1) 3 #[.int .i64 n]
section
variable {W W' : World} {g b : Nat} {d : DD} {n : Int}
theorem DEnv.keep (h : DEnv W g b d) (hb : Below W.heap.size W W') : DEnv W' g b d := ⟨h.1.keep hb, h.2.keep hb⟩
theorem NEnv.keep (h : NEnv W g b n) (hb : Below W.heap.size W W') : NEnv W' g b n := ⟨h.1.keep hb, h.2.keep hb⟩
theorem blk_ty {w : World} {b b' : Nat} {t t' : TypeId} {cs cs' : Array Value} (h : Blk w b t cs) (h' : Blk w b' t' cs') (hne : t ≠ t') : b ≠ b' := by
  rintro rfl
  unfold Blk at h h'
  rw [h] at h'
  simp only [Option.some.injEq, Obj.cells.injEq] at h'
  exact hne h'.2.1
theorem row_ty {w : World} {B : Nat} {e T : TypeId} {v : Value} {n : Nat} {xs : List Value} {b : Nat} {cs : Array Value} (hown : w.ownsRow B e 1 v n xs) (hb : Blk w b T cs) (hTe : T ≠ e) : v.ownBlock ≠ some b := by
  rcases hown.2 with ⟨rfl, _⟩ | ⟨g, cap, cur, rfl, _, hg, _⟩
  · simp [Value.ownBlock]
  · intro h
    simp only [Value.ownBlock, Option.some.injEq] at h
    subst h
    unfold Blk at hb
    rw [hg] at hb
    simp only [Option.some.injEq, Obj.cells.injEq] at hb
    exact hTe hb.2.1.symm
/-- a block of another type than the parts' row and the box that holds it -/
theorem env_chg {W W' : World} {T B n : Nat} {sv : Value} {xs : List Value} {cs0 cs : Array Value} {b : Nat} {t : TypeId} (hb : Blk W b t cs) (hT : Blk W T 88 cs0) (hr : W.ownsRow B 60 1 sv n xs) (h1 : t ≠ 88) (h2 : t ≠ 60) (hc : Chg (T :: sv.ownBlock.toList) W W') : Blk W' b t cs := by
  refine hb.chg hc (fun hm => ?_)
  rw [List.mem_cons] at hm
  rcases hm with hm | hm
  · exact blk_ty hb hT h1 hm
  · rw [Option.mem_toList] at hm
    exact row_ty hr hb h2 hm
theorem DEnv.chg {T B k : Nat} {sv : Value} {xs : List Value} {cs0 : Array Value} (h : DEnv W g b d) (hT : Blk W T 88 cs0) (hr : W.ownsRow B 60 1 sv k xs) (hc : Chg (T :: sv.ownBlock.toList) W W') : DEnv W' g b d := ⟨env_chg h.1 hT hr (by decide) (by decide) hc, env_chg h.2 hT hr (by decide) (by decide) hc⟩
theorem NEnv.chg {T B k : Nat} {sv : Value} {xs : List Value} {cs0 : Array Value} (h : NEnv W g b n) (hT : Blk W T 88 cs0) (hr : W.ownsRow B 60 1 sv k xs) (hc : Chg (T :: sv.ownBlock.toList) W W') : NEnv W' g b n := ⟨env_chg h.1 hT hr (by decide) (by decide) hc, env_chg h.2 hT hr (by decide) (by decide) hc⟩
end
theorem DEnv.part {W : World} {base g f : Nat} {r : Option Nat} {lim : Nat} {b : Nat} {d : DD} (h : DEnv W g b d) (hd : DOK d) (hb : b ∉ fpw g f r) (hb1 : b + 1 ∉ fpw g f r) : PartC W base g f r lim (bxFn 80 b) (descG d) :=
  ⟨enters_desc1, fun w2 r2 s2 hc _ hw => ptDesc1 base g f r2 lim s2 w2 b d hd hw (h.1.chg hc hb) (h.2.chg hc hb1)⟩
theorem NEnv.part {W : World} {base g f : Nat} {r : Option Nat} {lim : Nat} {b : Nat} {n : Int} (h : NEnv W g b n) (hn : lt63 n) (hb : b ∉ fpw g f r) (hb1 : b + 1 ∉ fpw g f r) : PartC W base g f r lim (bxFn 57 b) [[numI n]] :=
  ⟨enters_one1, fun w2 r2 s2 hc _ hw => ptNum1 base g f r2 lim w2 n hn b s2 hw (h.1.chg hc hb) (h.2.chg hc hb1)⟩
/-- the row of parts: how many things there are, and things -/
structure PRow (w W : World) (g T : Nat) (n : Int) (ds : List DD) (sv : Value) (b0 : Nat) (bs : List Nat) : Prop where
  bel : Below w.heap.size w W
  box : Blk W T 88 #[sv]
  row : W.ownsRow w.heap.size 60 1 sv (bs.length + 1) (((bxFn 57 b0) :: bs.map (bxFn 80)).map fnV)
  hT : w.heap.size ≤ T
  h0 : w.heap.size ≤ b0 ∧ NEnv W g b0 n
  hs : ∀ (j b : Nat), bs[j]? = some b → w.heap.size ≤ b ∧ ∃ d, ds[j]? = some d ∧ DEnv W g b d
theorem PRow.keep {w W W' : World} {g T : Nat} {n : Int} {ds : List DD} {sv : Value} {b0 : Nat} {bs : List Nat} (h : PRow w W g T n ds sv b0 bs) (hb : Below W.heap.size W W') : PRow w W' g T n ds sv b0 bs :=
  ⟨h.bel.trans (hb.mono h.bel.size), h.box.keep hb, kept_below h.row hb, h.hT, ⟨h.h0.1, h.h0.2.keep hb⟩, fun j b hj => ⟨(h.hs j b hj).1, (h.hs j b hj).2.imp fun _ k => ⟨k.1, k.2.keep hb⟩⟩⟩
theorem PRow.sep {w W : World} {g T : Nat} {n : Int} {ds : List DD} {sv : Value} {b0 : Nat} {bs : List Nat} (h : PRow w W g T n ds sv b0 bs) : sv.ownBlock ≠ some T := row_ty h.row h.box (by decide)
theorem PRow.push {w W W' : World} {g T : Nat} {n : Int} {ds : List DD} {sv : Value} {b0 : Nat} {bs : List Nat} (h : PRow w W g T n ds sv b0 bs) {d : DD} {b : Nat} {sv' : Value} (hd : ds[bs.length]? = some d) (hc : Chg (T :: sv.ownBlock.toList) W W') (hbox : Blk W' T 88 #[sv'])
    (hrow : W'.ownsRow w.heap.size 60 1 sv' (bs.length + 1 + 1) (((bxFn 57 b0) :: bs.map (bxFn 80)).map fnV ++ [fnV (bxFn 80 b)])) (hb : w.heap.size ≤ b) (he : DEnv W' g b d) : PRow w W' g T n ds sv' b0 (bs ++ [b]) where
  bel := h.bel.trans (hc.below (fun x hx => by
    rw [List.mem_cons] at hx
    rcases hx with rfl | hx
    · exact h.hT
    · rw [Option.mem_toList] at hx
      exact (World.ownsRow.lt h.row x hx).1) h.bel.size)
  box := hbox
  row := by rw [List.length_append, List.length_singleton]; simpa using hrow
  hT := h.hT
  h0 := ⟨h.h0.1, h.h0.2.chg h.box h.row hc⟩
  hs := fun j b' hj => by
    rw [List.getElem?_append] at hj
    by_cases hlt : j < bs.length
    · rw [if_pos hlt] at hj
      obtain ⟨h1, d', h2, h3⟩ := h.hs j b' hj
      exact ⟨h1, d', h2, h3.chg h.box h.row hc⟩
    · rw [if_neg hlt] at hj
      have e : j - bs.length = 0 := by
        have := (List.getElem?_eq_some_iff.1 hj).1
        simp at this; omega
      rw [e] at hj
      cases hj
      rw [show j = bs.length by omega]
      exact ⟨hb, d, hd, he⟩
set_option maxHeartbeats 1000000 in
/-- the part that writes descriptions, done -/
theorem ptDescs1 (base g f : Nat) (r : Option Nat) (lim : Nat) (s : WS) (w W w2 : World) (T : Nat) (ds : List DD) (sv : Value) (b0 : Nat) (bs : List Nat) (hp : PRow w W g T ds.length ds sv b0 bs) (hl : bs.length = ds.length) (hn : ds.length ≤ 1000000) (hd : ∀ d ∈ ds, DOK d) {r0 : Option Nat} (hfp : ∀ x ∈ fpw g f r0, x < w.heap.size)
    (hc : Chg (fpw g f r0) W w2) (hm : Moved W.heap.size r0 r) (h : WrB w2 base g f r lim s) :
    Calls Try.prog 79 #[.pointer (some ⟨T, 0, none⟩)] w2 fun e w' => e = .returned (.tuple #[]) ∧ PtPost w2 base g f r lim ((listG ds).foldl (putW lim) s) w' := by
  have hfr : ∀ x ∈ fpw g f r, x < w.heap.size ∨ W.heap.size ≤ x := fun x hx => (fpw_moved hm x hx).imp (hfp x) id
  have ne : ∀ b, w.heap.size ≤ b → b ∉ fpw g f r0 := fun b hb hx => by have := hfp b hx; omega
  have c0 := (hp.box.chg hc (ne T hp.hT)).cell 0 rfl
  obtain ⟨row, cap, esv⟩ : ∃ row cap, sv = .slice (some ⟨row, 0, none⟩) (bs.length + 1) cap := by
    rcases hp.row.2 with ⟨_, h0⟩ | ⟨g2, c2, _, e, _⟩
    · omega
    · exact ⟨g2, c2, e⟩
  have hrl := World.ownsRow.lt hp.row row (by rw [esv]; rfl)
  have HC := hid (ptWrite_calls base g f r lim s ((bxFn 57 b0) :: bs.map (bxFn 80)) ([[numI ds.length]] :: ds.map descG) row 0 cap (bs.length + 1) w2 (by simp) (by simp [hl]) (by omega) h
    (fun hx => by have := hfr row hx; omega) (Nat.lt_of_lt_of_le hrl.2 hc.size)
    (fun k v hk => by
      rw [Nat.zero_add]
      have := hp.row
      rw [esv] at this
      have h1 := this.cells (g := row) rfl k (fnV v) (by rw [List.getElem?_map, hk]; rfl)
      rw [Addr.add_lit, Nat.zero_add] at h1
      exact cell_chg h1 hc (ne row hrl.1))
    (fun k v gs hv hg => by
      cases k with
      | zero =>
        cases hv; cases hg
        exact (hp.h0.2.part (by unfold lt63; omega) (ne _ hp.h0.1) (ne _ (by have := hp.h0.1; omega))).chg hc hm
      | succ k =>
        simp only [List.getElem?_cons_succ, List.getElem?_map, Option.map_eq_some_iff] at hv hg
        obtain ⟨b, hb, rfl⟩ := hv
        obtain ⟨d, hdk, rfl⟩ := hg
        obtain ⟨h1, d', h2, h3⟩ := hp.hs k b hb
        rw [hdk] at h2
        cases h2
        exact (h3.part (hd d (List.mem_of_getElem? hdk)) (ne _ h1) (ne _ (by omega))).chg hc hm))
  have HF := hid (show ([[numI ds.length]] :: ds.map descG).flatten.foldl (putW lim) s = (listG ds).foldl (putW lim) s from by
    congr 1)
  rw [HF.out] at HC
  generalize (listG ds).foldl (putW lim) s = S' at HC ⊢
  subst esv
  generalize bs.length + 1 = K at HC c0
  clear hp hl hd hc hm h HF ne hrl hfr hfp hn
  go_enter Try.func79, Try.ntmps79
  go_wp2_with fail
  refine HC.out.mono ?_
  rintro _ w3 ⟨rfl, hq⟩
  have HQ := hid hq
  clear hq
  go_wp2_with fail
  go_end0
  exact ⟨rfl, HQ.out⟩
theorem enters_descs1 : EntersV 79 := enters_of Try.func79 (by kernel_rfl) rfl
theorem info_part : (Try.prog.info? 60).map (fun i => (i.zero, i.size, i.bytes)) = some (some .nilFunc, 1, 8) := by kernel_rfl
def dlVal (g : Nat) (cs : Array Value) (sv : Value) : Nat → Value → Value
  | 0, _ => sv
  | 1, _ => .pointer (some ⟨g, 0, none⟩)
  | 2, _ => .agg cs
  | _, k => k
/-- the part that a round makes -/
def DCP (w1 : World) (g : Nat) (d : DD) (v : Value) (W : World) : Prop := ∃ b, v = fnV (bxFn 80 b) ∧ w1.heap.size ≤ b ∧ DEnv W g b d
theorem dcp_st {w1 : World} {g : Nat} {d : DD} {T : Nat} {sv : Value} {B n : Nat} {xs : List Value} (hT : T < w1.heap.size) (hr : w1.ownsRow B 60 1 sv n xs) : ∀ v W W', w1.heap.size ≤ W.heap.size → Chg (T :: sv.ownBlock.toList) W W' → DCP w1 g d v W → DCP w1 g d v W' := by
  rintro v W W' _ hc ⟨b, e, hb, h1, h2⟩
  have hn : ∀ x, w1.heap.size ≤ x → x ∉ T :: sv.ownBlock.toList := fun x hx hm => by
    rw [List.mem_cons] at hm
    rcases hm with hm | hm
    · omega
    · rw [Option.mem_toList] at hm
      have := (World.ownsRow.lt hr x hm).2
      omega
  exact ⟨b, e, hb, h1.chg hc (hn b hb), h2.chg hc (hn (b + 1) (by omega))⟩
set_option maxRecDepth 20000 in
set_option maxHeartbeats 4000000 in
theorem descs_calls (base g f : Nat) (r : Option Nat) (lim : Nat) (B n c : Nat) (A : Option Addr) (ds : List DD) (w : World) (hs : SDs w B A n ds) (hn : n ≤ 1000000) (hd : ∀ d ∈ ds, DOK d) (hfp : ∀ x ∈ fpw g f r, x < w.heap.size) :
    Calls Try.prog 59 #[.pointer (some ⟨g, 0, none⟩), .slice A n c] w fun e w' => ∃ v, e = .returned (fnV v) ∧ PartC w' base g f r lim v (listG ds) ∧ Below w.heap.size w w' := by
  have hlen := hs.1
  have HS := hid hs
  have HN := hid (fun W => oneNum_env g (n : Int) W)
  have HFIN := hid (fun W T sv b0 bs (hp : PRow w W g T ds.length ds sv b0 bs) (hl : bs.length = ds.length) => (⟨enters_descs1, fun w2 r2 s2 hc hm hw => ptDescs1 base g f r2 lim s2 w W w2 T ds sv b0 bs hp hl (by omega) hd hfp hc hm hw⟩ : PartC W base g f r lim ⟨79, #[], #[.pointer (some ⟨T, 0, none⟩)]⟩ (listG ds)))
  subst hlen
  generalize listG ds = LG at HFIN ⊢
  clear hs hd hfp
  go_enter Try.func59, Try.ntmps59
  go_wp2_with fail
  refine (HN.out w).mono ?_
  rintro _ w1 ⟨rfl, k0, k1, hb⟩
  have HE0 := hid (show NEnv w1 g w.heap.size (ds.length : Int) from ⟨k0, k1⟩)
  have HB := hid hb
  clear k0 k1 hb HN
  unfold fnV bxFn
  dsimp only
  go_wp2_with fail
  have hq0 : PRow w ((w1.alloc (.cells #[.func (.func 57) #[] #[.pointer (some ⟨w.heap.size, 0, none⟩), .pointer (some ⟨w.heap.size + 1, 0, none⟩)]] 60)).alloc (.cells #[.slice (some ⟨w1.heap.size, 0, none⟩) 1 1] 88)) g (w1.heap.size + 1) (ds.length : Int) ds (.slice (some ⟨w1.heap.size, 0, none⟩) 1 1) w.heap.size [] := by
    obtain ⟨k0, k1, hb⟩ := two_new w1 #[.func (.func 57) #[] #[.pointer (some ⟨w.heap.size, 0, none⟩), .pointer (some ⟨w.heap.size + 1, 0, none⟩)]] #[.slice (some ⟨w1.heap.size, 0, none⟩) 1 1] 60 88
    have hs1 := HB.out.size
    refine ⟨HB.out.trans (hb.mono hs1), k1, ?_, by omega, ⟨Nat.le_refl _, HE0.out.keep hb⟩, fun j b hj => by simp at hj⟩
    exact ⟨by simp, .inr ⟨w1.heap.size, 1, _, rfl, hs1, k0, by simp, by simp [maxLen], by simp, by simp [fnV, bxFn]⟩⟩
  have HQ0 := hid hq0
  clear hq0
  generalize (w1.alloc (.cells #[.func (.func 57) #[] #[.pointer (some ⟨w.heap.size, 0, none⟩), .pointer (some ⟨w.heap.size + 1, 0, none⟩)]] 60)).alloc (.cells #[.slice (some ⟨w1.heap.size, 0, none⟩) 1 1] 88) = w2 at HQ0 ⊢
  generalize w1.heap.size + 1 = T at HQ0 ⊢
  generalize Value.slice (some ⟨w1.heap.size, 0, none⟩) 1 1 = sv0 at HQ0 ⊢
  clear HE0 HB
  go_loopw [7, 16] (fun _ v16 wr => ∃ (k : Nat) (sv : Value) (bs : List Nat), v16 = .int .i64 (k : Int) ∧ k ≤ ds.length ∧ bs.length = k ∧ Hid (PRow w wr g T (ds.length : Int) ds sv w.heap.size bs)) (fun _ v16 _ => ds.length - (intOf v16).toNat)
  case atStart => exact ⟨0, sv0, [], rfl, Nat.zero_le _, rfl, HQ0⟩
  case round =>
    clear HQ0
    obtain ⟨k, sv, bs, rfl, hk, hbk, HP⟩ := hrel
    by_cases hlt : k < ds.length
    · have hlt' : (k : Int) < (ds.length : Int) := by omega
      obtain ⟨b, off, d, rfl, hbB, hdk, hdm, h32, hc⟩ := (HS.out.keep HP.out.bel).at_ hlt
      have hrun := run_load_desc h32 hc
      have HDK := hid hdk
      have HDC := hid (fun W => desc_calls g d W)
      have HSA : Hid ((Try.prog.info? 25).map (·.size) = some (dcs d).toArray.size) := size_descA h32
      have HON : Hid ((dcs d).toArray.toList.all (·.oneCell') = true) := dcs_oneA d
      have HSZ : Hid (zdc.size = (dcs d).toArray.size) := by rw [zdc_size, List.size_toArray, dcs_length h32]; rfl
      have hz := (zero_of_info infoD).1
      have KZ := hid (Blk.new wr 25 zdc)
      have HNS := hid (new_set wr 25 zdc (dcs d).toArray)
      have HCS := hid (show (dcs d).toArray = (dcs d).toArray from rfl)
      generalize zdc = zd at hz KZ HNS HSZ
      rw [Hid] at HCS
      generalize hcs : (dcs d).toArray = cs at hrun HSA HON HSZ HNS
      have HCC := hid hcs
      clear hc HCS hcs h32 hdk hdm
      have HRUN := hid hrun
      clear hrun
      go_wp2_with (first | (refine wpList_load_run rfl 25 _ rfl _ _ rfl HRUN.out ?_) | (refine wpList_store_blk rfl 25 _ _ rfl wr.heap.size _ rfl rfl 25 _ KZ.out HSA.out HSZ.out HON.out ?_; refine Held.go ?_))
      obtain ⟨hb1, hk1⟩ := HNS.out
      generalize (wr.alloc (.cells zd 25)).setRow wr.heap.size cs = w3 at hb1 hk1 ⊢
      generalize hq7 : wr.heap.size = q at hk1 ⊢
      have HP3 := hid (HP.out.keep hb1)
      have HK1 := hid hk1
      have HBQ := hid hq7
      clear hb1 hk1 KZ HNS hz HRUN HSZ HON hq7 HP
      unfold Held
      go_wp2_with fail
      have hrow := HP3.out.row
      rw [hbk] at hrow
      have HBX := hid (show (T < w3.heap.size ∧ sv.ownBlock ≠ some T ∧ Blk w3 T 88 #[sv]) from ⟨HP3.out.box.lt, HP3.out.sep, HP3.out.box⟩)
      have HSV := hid (show w.heap.size ≤ w3.heap.size from HP3.out.bel.size)
      generalize hxs : ((bxFn 57 w.heap.size) :: bs.map (bxFn 80)).map fnV = xs at hrow
      have HXS := hid hxs
      have HROW := hid hrow
      have HDC2 := hid (fun W => (show Calls Try.prog 61 #[.pointer (some ⟨g, 0, none⟩), .agg cs] W fun e w' => e = .returned (fnV (bxFn 80 W.heap.size)) ∧ DEnv w' g W.heap.size d ∧ Below W.heap.size W w' from (by rw [← HCC.out]; exact Calls.mono (desc_calls g d W) fun e w' h => ⟨h.1, ⟨h.2.1, h.2.2.1⟩, h.2.2.2⟩)))
      clear hrow hxs
      refine wp_region_invG 28 (.pointer none) (dlVal g cs sv) (ApS w3 w.heap.size T 0 88 60 #[sv] sv (k + 1) xs 3 4 5 6 (DCP w3 g d) (fun _ _ => True)) (by kernel_rfl) (by kernel_rfl) (by exact Nat.le_refl 28) ?_ ?_ ?_
      · exact ApS.start w3 w.heap.size T 0 _ _ _ _ _ _ 3 4 5 6 7 _ _ (by decide) _ HBX.out.2.2 rfl HROW.out HSV.out HBX.out.2.1 (dcp_st HBX.out.1 HROW.out)
      · intro i o f gh a W hi hf hdep hsame hcl hval hS
        rcases i with _ | _ | _ | _ | _ | _ | _ | i
        all_goals simp only [List.getElem?_cons_succ, List.getElem?_cons_zero, List.getElem?_nil, Option.some.injEq, reduceCtorEq] at hi
        all_goals subst hi
        · have E5 : a.tmps[5]? = some (.pointer (some ⟨T, 0, none⟩)) := (same_of hsame 5 (by rfl)).trans rfl
          have n5 := not_yet hcl hf 5 (by rfl)
          have n6 := not_yet hcl n5 6 (by rfl)
          have c0 := hS.cell n6
          refine g_plain rfl ?_
          exact does_value (w' := W) (v := sv) (by go_simp) ⟨.pointer none, .inr rfl, hS.step (Below.refl _ _) 0 (.pointer none) (by decide) (by decide) (by decide) (by decide)⟩
        · have E0 : a.tmps[0]? = some (.pointer (some ⟨g, 0, none⟩)) := (same_of hsame 0 (by rfl)).trans rfl
          refine g_plain rfl ?_
          exact does_value (w' := W) (v := .pointer (some ⟨g, 0, none⟩)) (by go_simp) ⟨.pointer none, .inr rfl, hS.step (Below.refl _ _) 1 (.pointer none) (by decide) (by decide) (by decide) (by decide)⟩
        · have E7 : a.tmps[7]? = some (.pointer (some ⟨q, 0, none⟩)) := (same_of hsame 7 (by rfl)).trans rfl
          have n3 := not_yet hcl hf 3 (by rfl)
          refine g_plain rfl ?_
          exact does_load _ _ rfl q (by rw [eval_getD, E7]; rfl) _ (HK1.out.keep (hS.pre n3)) _ Try.underlying25 rfl HSA.out ⟨.pointer none, .inr rfl, hS.step (Below.refl _ _) 2 (.pointer none) (by decide) (by decide) (by decide) (by decide)⟩
        · have E21 := hval 1 _ 21 rfl rfl (dep_of hdep 1 (by rfl))
          have E22 := hval 2 _ 22 rfl rfl (dep_of hdep 2 (by rfl))
          unfold dlVal at E21 E22
          refine g_plain rfl ?_
          refine does_call 61 #[.pointer (some ⟨g, 0, none⟩), .agg cs] (by go_simp) ((HDC2.out W).mono ?_)
          rintro _ W' ⟨rfl, he, hb⟩
          exact ⟨_, rfl, fnV (bxFn 80 W.heap.size), .inr rfl, hS.call hf (by decide) (by decide) (by decide) hb _ ⟨W.heap.size, rfl, hS.chg.size, he⟩⟩
        · have E23 := hval 3 _ 23 rfl rfl (dep_of hdep 3 (by rfl))
          unfold dlVal at E23
          refine g_plain rfl ?_
          obtain ⟨bb, ev, -⟩ := hS.post (dep_of hdep 3 (by rfl))
          rw [ev] at E23
          have hB := hS.build (dep_of hdep 3 (by rfl)) hf (by decide) (by decide) (by decide)
          rw [ev] at hB
          unfold fnV bxFn at E23 hB
          exact does_value (w' := W.alloc (.cells #[.func (.func 80) #[] #[.pointer (some ⟨bb, 0, none⟩), .pointer (some ⟨bb + 1, 0, none⟩)]] 60)) (v := .slice (some ⟨W.heap.size, 0, none⟩) 1 1) (by go_simp) ⟨.slice (some ⟨W.heap.size, 0, none⟩) 1 1, .inr rfl, hB⟩
        · have E20 := hval 0 _ 20 rfl rfl (dep_of hdep 0 (by rfl))
          have E24 := hval 4 _ 24 rfl rfl (dep_of hdep 4 (by rfl))
          unfold dlVal at E20 E24
          refine g_plain rfl ?_
          obtain ⟨bb, ev, -⟩ := hS.post ((hS.lit (dep_of hdep 4 (by rfl))).1)
          obtain ⟨qq, v', W', e6, hr, hS'⟩ := hS.app (P := Try.prog) (dep_of hdep 4 (by rfl)) hf (by decide) (by decide) (by decide) 88 88 Try.underlying88 info_part rfl (by omega) (by decide) (by rw [ev]; rfl) trivial
          rw [e6] at E24
          exact does_append _ _ _ rfl (by rw [eval_getD, E20]; rfl) (by rw [eval_getD, E24]; rfl) hr ⟨v', .inr rfl, hS'⟩
        · have E5 : a.tmps[5]? = some (.pointer (some ⟨T, 0, none⟩)) := (same_of hsame 5 (by rfl)).trans rfl
          have E25 := hval 5 _ 25 rfl rfl (dep_of hdep 5 (by rfl))
          unfold dlVal at E25
          refine g_plain rfl ?_
          obtain ⟨g2, c2, e7⟩ := hS.form (dep_of hdep 5 (by rfl))
          rw [e7] at E25
          have c0 := hS.cell hf; have z0 := hS.frozen hf
          exact does_skip (w' := W.setCell ⟨T, 0, none⟩ (.slice (some ⟨g2, 0, none⟩) (k + 1 + 1) c2)) (by go_simp) ⟨.pointer none, .inl rfl, hS.put (dep_of hdep 5 (by rfl)) hf (by decide) (by decide) (by decide) (.pointer none) e7⟩
      · intro gh W hS
        obtain ⟨-, hup⟩ := hS.up rfl
        obtain ⟨-, hrow, -⟩ := hS.ap rfl
        obtain ⟨bb, ev, hbb, hen⟩ := hS.post rfl
        have hch := hS.chg
        rw [ev, ← HXS.out, ← hbk] at hrow
        have HPN := hid (HP3.out.push (by rw [hbk]; exact HDK.out) hch (show Blk W T 88 #[gh 5] from hup) hrow (by have := HSV.out; omega) hen)
        clear hS hup hrow hen hch HROW HBX HP3 HDC2 HDC HK1 HSA HXS HCC
        simp only [putAll, dlVal, Nat.reduceAdd, Nat.zero_add, Act.put, List.setIfInBounds_toArray, List.set_cons_zero, List.set_cons_succ]
        generalize gh 5 = sv2 at HPN ⊢
        generalize gh 3 = y3
        generalize gh 4 = y4
        go_wp2_with fail
        go_roundw
        case rel => exact ⟨k + 1, sv2, bs ++ [bb], by go_num, by omega, by simp [hbk], HPN⟩
        case measure => simp [intOf]; omega
    · obtain rfl : k = ds.length := by omega
      have HF := hid (HFIN.out wr T sv _ bs HP.out hbk)
      have HB := hid HP.out.bel
      clear HFIN HP
      go_wp2_with fail
      go_ret
      exact ⟨⟨79, #[], #[.pointer (some ⟨T, 0, none⟩)]⟩, rfl, HF.out, HB.out⟩
end Go.Proofs.Ytljnpaikjljmbaa
