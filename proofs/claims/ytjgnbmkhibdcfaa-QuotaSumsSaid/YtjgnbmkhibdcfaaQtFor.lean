/- Contracts of package quota: Forget; of nobody: Repos, IDs, Forget. -/
import Derived.Test.YtjgnbmkhibdcfaaQtRep
namespace Go.Proofs.Ytjgnbmkhibdcfaa
open Go.RowKit

/-- what is left when the digest is unlinked in the repositories D -/
def forgL (l : List (LKey × Int)) (id : List UInt8) (D : List (List UInt8)) : List (LKey × Int) := l.filter (fun p => decide (¬(p.1.2 = id ∧ p.1.1 ∈ D)))
def forgN (l : List (LKey × Int)) (id : List UInt8) (D : List (List UInt8)) : Nat := (l.filter (fun p => decide (p.1.2 = id ∧ p.1.1 ∈ D))).length
theorem forgL_nil (l : List (LKey × Int)) (id : List UInt8) : forgL l id [] = l := by
  unfold forgL
  exact List.filter_eq_self.2 fun p _ => by simp
theorem forgN_nil (l : List (LKey × Int)) (id : List UInt8) : forgN l id [] = 0 := by
  unfold forgN
  simp
theorem szQ_forg (l : List (LKey × Int)) (id : List UInt8) {D : List (List UInt8)} {r : List UInt8} (h : r ∉ D) : szQ (forgL l id D) (r, id) = szQ l (r, id) := by
  induction l with
  | nil => rfl
  | cons p l ih =>
    unfold forgL at ih ⊢
    rw [List.filter_cons, szQ_cons]
    by_cases e : p.1 = (r, id)
    · rw [if_pos e, if_pos (by simp [e, h]), szQ_cons, if_pos e]
    · rw [if_neg e]
      by_cases e2 : ¬(p.1.2 = id ∧ p.1.1 ∈ D)
      · rw [if_pos (decide_eq_true e2), szQ_cons, if_neg e, ih]
      · rw [if_neg (fun h => e2 (of_decide_eq_true h)), ih]
theorem forg_none {l : List (LKey × Int)} {id r : List UInt8} {D : List (List UInt8)} (h : szQ l (r, id) = none) : forgL l id (r :: D) = forgL l id D ∧ forgN l id (r :: D) = forgN l id D := by
  have hp : ∀ p ∈ l, (p.1.2 = id ∧ p.1.1 ∈ r :: D) ↔ (p.1.2 = id ∧ p.1.1 ∈ D) := fun p hp => by
    rw [List.mem_cons]
    constructor
    · rintro ⟨h1, h2 | h2⟩
      · exact absurd (List.mem_map.2 ⟨p, hp, Prod.ext h2 h1⟩) (szQ_none.1 h)
      · exact ⟨h1, h2⟩
    · rintro ⟨h1, h2⟩
      exact ⟨h1, .inr h2⟩
  unfold forgL forgN
  refine ⟨List.filter_congr fun p h => by rw [decide_eq_decide]; exact not_congr (hp p h), ?_⟩
  congr 1
  exact List.filter_congr fun p h => by rw [decide_eq_decide]; exact hp p h
theorem forg_del (l : List (LKey × Int)) (id r : List UInt8) (D : List (List UInt8)) : delQ (forgL l id D) (r, id) = forgL l id (r :: D) := by
  unfold delQ forgL
  rw [List.filter_filter]
  refine List.filter_congr fun p _ => ?_
  rw [← Bool.decide_and, decide_eq_decide, List.mem_cons]
  constructor
  · rintro ⟨h1, h2⟩ ⟨h3, h4 | h4⟩
    · exact h1 (Prod.ext h4 h3)
    · exact h2 ⟨h3, h4⟩
  · intro h
    exact ⟨fun e => h (by rw [e]; exact ⟨rfl, .inl rfl⟩), fun h2 => h ⟨h2.1, .inr h2.2⟩⟩
theorem forgN_some {l : List (LKey × Int)} {id r : List UInt8} {D : List (List UInt8)} (hn : (l.map (·.1)).Nodup) {y : Int} (h : szQ l (r, id) = some y) (hr : r ∉ D) : forgN l id (r :: D) = forgN l id D + 1 := by
  induction l with
  | nil => cases h
  | cons p l ih =>
    rw [List.map_cons, List.nodup_cons] at hn
    rw [szQ_cons] at h
    unfold forgN at ih ⊢
    rw [List.filter_cons, List.filter_cons]
    by_cases e : p.1 = (r, id)
    · have hnone : szQ l (r, id) = none := szQ_none.2 (by rw [← e]; exact hn.1)
      have h2 := (forg_none (D := D) hnone).2
      unfold forgN at h2
      rw [if_pos (by simp [e]), if_neg (by simp [e, hr]), List.length_cons, h2]
    · rw [if_neg e] at h
      have ih' := ih hn.2 h
      have hiff : (p.1.2 = id ∧ p.1.1 ∈ r :: D) ↔ (p.1.2 = id ∧ p.1.1 ∈ D) := by
        rw [List.mem_cons]
        constructor
        · rintro ⟨h1, h2 | h2⟩
          · exact absurd (Prod.ext h2 h1) e
          · exact ⟨h1, h2⟩
        · rintro ⟨h1, h2⟩
          exact ⟨h1, .inr h2⟩
      by_cases e2 : p.1.2 = id ∧ p.1.1 ∈ D
      · rw [if_pos (by simpa using hiff.2 e2), if_pos (by simpa using e2), List.length_cons, List.length_cons, ih']
      · rw [if_neg (by simpa using fun h => e2 (hiff.1 h)), if_neg (by simpa using e2), ih']
theorem forg_all {l : List (LKey × Int)} {id : List UInt8} {D : List (List UInt8)} (h : ∀ p ∈ l, p.1.1 ∈ D) : forgL l id D = l.filter (fun p => decide (p.1.2 ≠ id)) ∧ forgN l id D = (l.filter (fun p => decide (p.1.2 = id))).length := by
  unfold forgL forgN
  refine ⟨List.filter_congr fun p hp => by rw [decide_eq_decide]; exact not_congr ⟨fun h2 => h2.1, fun h2 => ⟨h2, h p hp⟩⟩, ?_⟩
  congr 1
  exact List.filter_congr fun p hp => by rw [decide_eq_decide]; exact ⟨fun h2 => h2.1, fun h2 => ⟨h2, h p hp⟩⟩
theorem OKQ.forg_len {q : QS} (h : OKQ q) (id : List UInt8) (D : List (List UInt8)) : forgN q.l id D ≤ 65536 := Nat.le_trans (List.length_filter_le _ _) h.few
/-- on the way through Forget -/
structure ForI (q : QS) (g0 : List UInt8 → Option Nat) (todo : List UInt8 → Bool) (D : List (List UInt8)) : Prop where
  i1 : ∀ z : List UInt8, z.length ≤ maxLen → (g0 z).isSome = true → todo z = true ∨ z ∈ D
  i2 : ∀ z : List UInt8, z.length ≤ maxLen → todo z = true → z ∉ D
theorem ForI.step {q : QS} {g0 : List UInt8 → Option Nat} {todo : List UInt8 → Bool} {D : List (List UInt8)} (h : ForI q g0 todo D) (r : List UInt8) : ForI q g0 (fun z => todo z && !decide (z = r)) (r :: D) where
  i1 := fun z hz hs => by
    by_cases e : z = r
    · exact .inr (by simp [e])
    · rcases h.i1 z hz hs with h1 | h1
      · exact .inl (by simp [h1, e])
      · exact .inr (by simp [h1])
  i2 := fun z hz ht => by
    simp at ht
    rw [List.mem_cons]
    rintro (e | h2)
    · exact ht.2 e
    · exact h.i2 z hz ht.1 h2
/-- what Forget leaves -/
def ForP (w : World) (F : List Nat) (s m u n : Nat) (q : QS) (id : List UInt8) (e : Ending) (w' : World) : Prop :=
  e = .returned (.int .i64 (((q.l.filter (fun p => decide (p.1.2 = id))).length : Nat) : Int)) ∧ ∃ g', QtB w' F s m u n { q with l := q.l.filter (fun p => decide (p.1.2 ≠ id)) } g' ∧ Chg F w w'
set_option maxRecDepth 20000 in
set_option maxHeartbeats 4000000 in
theorem qforget_calls {w : World} {F : List Nat} {s m u n : Nat} {q : QS} {g : List UInt8 → Option Nat} (h : QtB w F s m u n q g) (id : List UInt8) (hl : id.length = 32) :
    Calls Try.prog 18 #[.pointer (some ⟨s, 0, none⟩), .agg (bcells id)] w (ForP w F s m u n q id) := by
  have hb1 := below_new w (.cells (bcells id) 32)
  have hk1 := Blk.new w 32 (bcells id)
  have hq1 := h.keep hb1
  have HV := hid (qvalid_calls s _ hq1.cells.1)
  have HB1 := hid hb1
  have HH := hid h
  have HSZ := hid (size32 hl)
  have HL := hid hl
  have c3 := hq1.cells.2.2.2
  clear h hl hb1
  go_enter Try.func18, Try.ntmps18
  go_wp2_with fail
  generalize w.alloc (.cells (bcells id) 32) = w1 at hk1 hq1 HV HB1 c3 ⊢
  obtain ⟨p, hp⟩ : ∃ p, w.heap.size = p := ⟨_, rfl⟩
  have HP := hid hp
  rw [hp] at hk1 ⊢
  have HK1 := hid hk1; have HQ1 := hid hq1
  clear hk1 hq1 hp
  refine HV.out.mono ?_
  rintro _ _ ⟨rfl, rfl⟩
  clear HV
  go_wp2_with (at_range; refine Held.go ?_)
  refine wpList_range_G rfl _ (T := 50) rfl Try.underlying50 rfl HQ1.out.us ?_
  intro w2 hr2 hg2 hz2
  have hb2 := below_of_grown hg2 (Nat.le_refl w1.heap.size) (fun g e => by cases e)
  have HR := hid hr2
  have HK2 := hid (HK1.out.keep hb2)
  have HQ2 := hid (HQ1.out.keep hb2)
  have HC2 := hid (Chg.of_below (L := F) (HB1.out.trans (hb2.mono HB1.out.size)))
  obtain ⟨r, hr⟩ : ∃ r, w1.heap.size = r := ⟨_, rfl⟩
  have HRN := hid (show p < r from by have := HK1.out.lt; omega)
  rw [hr] at HR ⊢
  clear hr2 hg2 hz2 hb2 hr HK1 HQ1 c3
  go_frame
  go_wp2_with fail
  go_loopw [5] (fun v5 wr => ∃ (c : Nat) (D : List (List UInt8)) (g' : List UInt8 → Option Nat) (todo : List UInt8 → Bool), v5 = .int .i64 (c : Int) ∧ Hid (QtB wr F s m u n { q with l := forgL q.l id D } g') ∧ Hid (RanG stK ptK wr u r n g' todo) ∧ Hid (ForI q g todo D) ∧ Hid (c = forgN q.l id D) ∧ Hid (Chg F w wr) ∧ Hid (Blk wr p 32 (bcells id))) (fun _ wr => wr.rangeLeft u r)
  case atStart => exact ⟨0, [], g, _, rfl, hid (by rw [forgL_nil]; exact HQ2.out), HR, hid ⟨fun z _ hs => .inl hs, fun z _ _ h => (by cases h)⟩, hid (forgN_nil _ _).symm, HC2, HK2⟩
  case round =>
    clear HR HQ2 HC2 HK2 HB1
    obtain ⟨c, D, g', todo, rfl, HQ, HR, HI, HCN, HC, HK⟩ := hrel
    go_wp2_with (at_next; refine Held.go ?_)
    refine wpList_next_G rfl _ rfl rfl HR.out ?_ ?_
    · intro hdone
      have hall : ∀ p ∈ q.l, p.1.1 ∈ D := fun p hp => by
        have hkp := HH.out.ok.keys p hp
        obtain ⟨y, hy⟩ := Option.isSome_iff_exists.1 (szQ_isSome hp)
        obtain ⟨b, hb⟩ := HH.out.has hkp hy
        rcases HI.out.i1 p.1.1 hkp.1 (by rw [hb]; rfl) with h1 | h1
        · rw [hdone p.1.1 hkp.1] at h1; cases h1
        · exact h1
      obtain ⟨f1, f2⟩ := forg_all (id := id) hall
      have HEnd := hid (show ForP w F s m u n q id (.returned (.int .i64 (c : Int))) wr from ⟨by rw [HCN.out, f2], g', by have := HQ.out; rw [f1] at this; exact this, HC.out⟩)
      clear hdone hall f1 f2 HQ HR HI HCN HC HK
      go_wp2_with fail
      go_ret
      exact HEnd.out
    · intro z cc w5 hz ht hf hr5 hlt hg5 hz5 hen
      have hzl : z.length ≤ maxLen := hz
      have hrD := HI.out.i2 z hzl ht
      have hFlt := HQ.out.lt
      have hkl := HK.out.lt
      have hpF : p ∉ F := fun hm => by have := HH.out.lt p hm; have := HP.out; omega
      have hrF : ∀ b ∈ F, b ∉ [r] := fun b hb hm => by
        rw [List.mem_singleton.1 hm] at hb
        have := HH.out.lt r hb
        have := HRN.out
        have := HP.out
        omega
      have hc5 : Chg [r] wr w5 := Chg.of_grown hg5 (fun g e => by cases e; simp)
      have hq5 := HQ.out.chg hc5 hrF
      have hk5 := HK.out.chg hc5 (by simp; have := HRN.out; omega)
      have hcc5 : Chg F w w5 := HC.out.trans hc5 (fun b hb => .inr (by rw [List.mem_singleton.1 hb]; have := HRN.out; have := HP.out; omega))
      have hkz : kok (z, id) := ⟨hzl, HL.out⟩
      have HU := hid (qunlink_calls hq5 z id hkz)
      have hen' : (Instr.entry (.pointer (some ⟨r, 0, none⟩))).run Try.prog w5 = .ok (.tuple #[.string (strB z), .pointer (some ⟨cc, 0, none⟩)]) w5 := hen
      have HI5 := hid (HI.out.step z)
      have HR5 := hid hr5; have HQ5 := hid hq5; have HK5 := hid hk5; have HC5 := hid hcc5; have HLT := hid hlt; have HRD := hid hrD; have HPF := hid hpF
      change wpList _ _ _ _ (Act.put _ _ (.tuple #[.bool true, .string (strB z), .pointer (some ⟨cc, 0, none⟩)])) _
      clear hz ht hf hr5 hlt hg5 hz5 hen hrD hFlt hkl hpF hrF hc5 hq5 hk5 hcc5 HQ HR HI HK HC
      go_wp2_with (refine wpList_load_row rfl 32 _ rfl p rfl _ _ _ _ HK5.out Try.underlying32 rfl HSZ.out ?_)
      refine HU.out.mono ?_
      intro e w6 hu
      unfold UnlP at hu
      have hsz := szQ_forg q.l id HRD.out
      simp only [hsz] at hu
      cases hs : szQ q.l (z, id) with
      | none =>
        rw [hs] at hu
        obtain ⟨rfl, hb6⟩ := hu
        obtain ⟨f1, f2⟩ := forg_none (D := D) hs
        have HQ6 := hid (show QtB w6 F s m u n { q with l := forgL q.l id (z :: D) } g' from by rw [f1]; exact HQ5.out.keep hb6)
        obtain ⟨hr6, hl6⟩ := HR5.out.keep hb6
        have HR6 := hid hr6
        have HC6 := hid (HC5.out.trans (Chg.of_below (L := F) hb6) (fun b hb => .inl hb))
        have HK6 := hid (HK5.out.keep hb6)
        have HCN6 := hid (show c = forgN q.l id (z :: D) from by rw [f2]; exact HCN.out)
        have HLT6 := hid (show w6.rangeLeft u r < wr.rangeLeft u r from by rw [hl6]; exact HLT.out)
        clear hs hb6 f1 f2 hr6 hl6 hsz HU hen'
        go_wp2_with fail
        go_roundw
        case rel => exact ⟨c, z :: D, g', _, rfl, HQ6, HR6, HI5, HCN6, HC6, HK6⟩
        case measure => exact HLT6.out
      | some y =>
        rw [hs] at hu
        obtain ⟨rfl, g2, hd1, hd2, hd3⟩ := hu
        have f2 := forgN_some (D := D) HH.out.ok.nodup hs HRD.out
        have HQ6 := hid (show QtB w6 F s m u n { q with l := forgL q.l id (z :: D) } g2 from by rw [← forg_del]; exact hd1)
        obtain ⟨hr6, hl6⟩ := hd3 r _ HR5.out (by simp)
        have HR6 := hid hr6
        have HC6 := hid (HC5.out.trans hd2 (fun b hb => .inl hb))
        have HK6 := hid (HK5.out.chg hd2 HPF.out)
        have HCN6 := hid (show c + 1 = forgN q.l id (z :: D) from by rw [f2, HCN.out])
        have hwc : IntKind.i64.wrap ((c : Int) + 1) = ((c + 1 : Nat) : Int) := by
          rw [IntWalk.i64_in _ (by have h1 := HH.out.ok.forg_len id D; have h2 := HCN.out; omega)]
          omega
        have HLT6 := hid (show w6.rangeLeft u r < wr.rangeLeft u r from by have := HLT.out; omega)
        clear hs hd1 hd2 hd3 f2 hr6 hl6 hsz HU hen'
        go_wp2_with fail
        go_roundw
        case rel => exact ⟨c + 1, z :: D, g2, _, rfl, HQ6, HR6, HI5, HCN6, HC6, HK6⟩
        case measure => exact HLT6.out
theorem qforget_none {w : World} (h : Value) (id : List UInt8) (hn : NoObj w h) : Calls Try.prog 18 #[h, .agg (bcells id)] w fun e w' => e = .returned (.int .i64 0) ∧ Below w.heap.size w w' := by
  have HB := hid (below_new w (.cells (bcells id) 32))
  have HV := hid (qvalid_none h _ (hn.keep HB.out))
  clear hn
  go_enter Try.func18, Try.ntmps18
  go_wp2_with (first | (refine HV.out.mono ?_; rintro _ _ ⟨rfl, rfl⟩))
  go_ret
  exact ⟨rfl, HB.out⟩
theorem qrepos_none {w : World} (h : Value) (hn : NoObj w h) : Calls Try.prog 20 #[h] w fun e w' => e = .returned (.slice none 0 0) ∧ w = w' := by
  have HV := hid (qvalid_none h w hn)
  clear hn
  go_enter Try.func20, Try.ntmps20
  go_wp2_with (first | (refine HV.out.mono ?_; rintro _ _ ⟨rfl, rfl⟩))
  go_ret
  exact ⟨rfl, rfl⟩
theorem qids_none {w : World} (h : Value) (r : ByteArray) (hn : NoObj w h) : Calls Try.prog 30 #[h, .string r] w fun e w' => e = .returned (.slice none 0 0) ∧ Below w.heap.size w w' := by
  have HB := hid (below_new w (.cells #[.string r] 9))
  have HV := hid (qvalid_none h _ (hn.keep HB.out))
  clear hn
  go_enter Try.func30, Try.ntmps30
  go_wp2_with (first | (refine HV.out.mono ?_; rintro _ _ ⟨rfl, rfl⟩))
  go_ret
  exact ⟨rfl, HB.out⟩
end Go.Proofs.Ytjgnbmkhibdcfaa
