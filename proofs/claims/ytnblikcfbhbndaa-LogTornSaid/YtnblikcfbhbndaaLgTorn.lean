/- The law LogTorn: what an area has behind a crash; two lists put together, in whatever order; the law, walked. -/
import Derived.Test.YtnblikcfbhbndaaLgKeep
import Derived.Test.YtnblikcfbhbndaaDvMath
import Derived.Test.YtnblikcfbhbndaaLgInside
import Derived.Test.YtnblikcfbhbndaaLgLists
import Derived.Test.YtnblikcfbhbndaaPhaseT
import Derived.Deep.RegionHeld3
namespace Go.Proofs.Ytnblikcfbhbndaa
open Go.RowKit

theorem crashP_lost (img : List UInt8) (ws : List (Nat × List UInt8)) (keep : List Bool) (m : Nat) (hm : m ≤ ws.length) (h0 : 0 ≤ (crashP img ws keep m).2) : keptAt keep (crashP img ws keep m).2.toNat = false := by
  induction m with
  | zero => exact absurd h0 (by simp [crashP])
  | succ m ih =>
    obtain ⟨x, hx⟩ : ∃ x, ws[m]? = some x := ⟨ws[m], List.getElem?_eq_getElem (by omega)⟩
    rw [crashP_next _ _ _ _ _ hx] at h0 ⊢
    cases hk : keptAt keep m with
    | true =>
      rw [hk, if_pos rfl] at h0
      rw [if_pos rfl]
      exact ih (by omega) h0
    | false =>
      rw [if_neg (by simp)]
      simpa using hk
/-- a sector that was written once -/
theorem crashP_once {ws : List (Nat × List UInt8)} {img : List UInt8} {n k : Nat} {x : Nat × List UInt8} (keep : List Bool) (hl : img.length = 64 * n) (h : ∀ x ∈ ws, x.1 < n ∧ x.2.length = 64) (hx : ws[k]? = some x) (hd : ∀ j y, ws[j]? = some y → y.1 = x.1 → j = k) (m : Nat) (hm : m ≤ ws.length) :
    secAt (crashP img ws keep m).1 x.1 = if k < m ∧ keptAt keep k = true then x.2 else secAt img x.1 := by
  have hxo := h x (List.mem_of_getElem? hx)
  induction m with
  | zero => rw [if_neg (by omega)]; rfl
  | succ m ih =>
    obtain ⟨y, hy⟩ : ∃ y, ws[m]? = some y := ⟨ws[m], List.getElem?_eq_getElem (by omega)⟩
    have hyo := h y (List.mem_of_getElem? hy)
    have hok := (crashP_ok keep hl h m (by omega)).1
    rw [crashP_next _ _ _ _ _ hy]
    by_cases e : m = k
    · subst e
      rw [hx] at hy; cases hy
      cases hk : keptAt keep m with
      | true =>
        rw [if_pos rfl, if_pos ⟨by omega, rfl⟩]
        exact secPut_same hok hxo.1 hxo.2
      | false =>
        rw [if_neg (by simp), if_neg (by simp)]
        have := ih (by omega)
        rw [if_neg (by omega)] at this
        exact this
    · have hne : x.1 ≠ y.1 := fun q => e (hd m y hy q.symm)
      have hi := ih (by omega)
      have hiff : (if k < m + 1 ∧ keptAt keep k = true then x.2 else secAt img x.1) = if k < m ∧ keptAt keep k = true then x.2 else secAt img x.1 := by
        by_cases hkm : k < m
        · by_cases hq : keptAt keep k = true
          · rw [if_pos ⟨by omega, hq⟩, if_pos ⟨hkm, hq⟩]
          · rw [if_neg (fun h => hq h.2), if_neg (fun h => hq h.2)]
        · rw [if_neg (fun h => hkm (by omega)), if_neg (fun h => hkm h.1)]
      rw [hiff, ← hi]
      cases hk : keptAt keep m with
      | true =>
        rw [if_pos rfl]
        exact secPut_other hok hyo.1 hyo.2 hxo.1 hne
      | false => rw [if_neg (by simp)]
theorem crash_once {ws : List (Nat × List UInt8)} {img : List UInt8} {n k t : Nat} {x : Nat × List UInt8} (keep : List Bool) (hl : img.length = 64 * n) (h : ∀ x ∈ ws, x.1 < n ∧ x.2.length = 64) (hx : ws[k]? = some x) (hd : ∀ j y, ws[j]? = some y → y.1 = x.1 → j = k) (ht : t ≤ 64) :
    (keptAt keep k = true → secAt (crashI img ws keep t) x.1 = x.2) ∧ (keptAt keep k = false → secAt (crashI img ws keep t) x.1 = secAt img x.1 ∨ secAt (crashI img ws keep t) x.1 = x.2.take t ++ (secAt img x.1).drop t) := by
  have hxo := h x (List.mem_of_getElem? hx)
  have hkl : k < ws.length := (List.getElem?_eq_some_iff.1 hx).1
  have hP := crashP_once keep hl h hx hd ws.length (Nat.le_refl _)
  have hok := crashP_ok keep hl h ws.length (Nat.le_refl _)
  by_cases h0 : 0 ≤ (crashP img ws keep ws.length).2
  · have hlost := crashP_lost img ws keep ws.length (Nat.le_refl _) h0
    obtain ⟨l, hle⟩ : ∃ l : Nat, (crashP img ws keep ws.length).2 = (l : Int) := ⟨_, (Int.toNat_of_nonneg h0).symm⟩
    rw [hle, Int.toNat_natCast] at hlost
    have hll : l < ws.length := by have := hok.2.2; omega
    obtain ⟨y, hy⟩ : ∃ y, ws[l]? = some y := ⟨ws[l], List.getElem?_eq_getElem hll⟩
    have hyo := h y (List.mem_of_getElem? hy)
    have hI : crashI img ws keep t = tear (crashP img ws keep ws.length).1 y.1 y.2 t := crashI_pos (p1 := (crashP img ws keep ws.length).1) (by rw [← hle]) hy
    rw [hI]
    by_cases e : l = k
    · subst e
      rw [hx] at hy; cases hy
      rw [hlost] at hP
      rw [if_neg (by simp)] at hP
      refine ⟨fun q => (by rw [hlost] at q; cases q), fun _ => .inr ?_⟩
      rw [tear_same hok.1 hxo.1 hxo.2 ht, hP]
    · have hne : x.1 ≠ y.1 := fun q => e (hd l y hy q.symm)
      rw [tear_other hok.1 hyo.1 hyo.2 ht hxo.1 hne, hP]
      refine ⟨fun q => if_pos ⟨hkl, q⟩, fun q => .inl (if_neg (by rw [q]; simp))⟩
  · rw [crashI_neg h0, hP]
    exact ⟨fun q => if_pos ⟨hkl, q⟩, fun q => .inl (if_neg (by rw [q]; simp))⟩
section
variable {f N gen at_ : Nat} {recs : List (List UInt8)} {s s' : DS} {rec : List UInt8}
theorem mapIdx_get {l : List (List UInt8)} {i k : Nat} {y : Nat × List UInt8} (h : (l.mapIdx fun k b => (i + k, b))[k]? = some y) : ∃ b, l[k]? = some b ∧ y = (i + k, b) := by
  rw [List.getElem?_mapIdx] at h
  obtain ⟨b, hb, e⟩ := Option.map_eq_some_iff.1 h
  exact ⟨b, hb, e.symm⟩
theorem zeros_front (b : List UInt8) (t : Nat) (hb : b.length = 64) (ht : t < 64) : (b.take t ++ zeros64.drop t)[63]? ≠ some 165 := by
  rw [List.getElem?_append_right (by simp; omega), List.getElem?_drop]
  have e : t + (63 - (b.take t).length) = 63 := by simp [hb]; omega
  rw [e]
  decide
/-- what was written behind what was flushed, behind a crash -/
theorem torn_has (h : LogS f N gen at_ recs s) (h' : LogS f N gen (at_ + needN rec.length) (recs ++ [rec]) s') (hp : Put s s' (f + at_) (recSecs gen at_ rec)) (hlo : s.loose = []) (hsn : s.now = s.img) (_hr : rec.length ≤ 1048576) (keep : List Bool) (t : Nat) (ht : t < 64) :
    (crashD s' keep (t : Int)).OK ∧ ((∀ i, i < needN rec.length → keptAt keep i = true) → hasL (crashD s' keep (t : Int)) (areaN f N gen) ((at_ + needN rec.length : Nat) : Int) (recs ++ [rec]) = true) ∧ ((∃ i, i < needN rec.length ∧ keptAt keep i = false) → hasL (crashD s' keep (t : Int)) (areaN f N gen) (at_ : Int) recs = true) := by
  have hcr : crashD s' keep (t : Int) = { brokeS s' keep t with fuse := none, out := false } := by
    unfold crashD
    rw [if_pos (by omega), Int.toNat_natCast]
  have hsane : Sane s' := hp.sane (by unfold Sane; rw [hlo, hsn]; rfl)
  have hnow := broke_sane hp.ok hsane keep (t := t) (by omega)
  have hbok := broke_ok hp.ok keep (t := t) (by omega)
  have hok : (crashD s' keep (t : Int)).OK := by rw [hcr]; exact ⟨hbok.n1, hbok.n2, hbok.nb, hbok.lo⟩
  have hpl : Plain (crashD s' keep (t : Int)) := by rw [hcr]; exact ⟨rfl, rfl⟩
  have hn : (crashD s' keep (t : Int)).n = s.n := by rw [hcr]; exact hp.n
  have hwl : s'.loose = (recSecs gen at_ rec).mapIdx fun k b => (f + at_ + k, b) := by rw [hp.loose, hlo, List.nil_append]
  have hns : s'.n = s.n := hp.n
  have hsec : ∀ j, secsOf (crashD s' keep (t : Int)) f j = secAt (crashI s.img s'.loose keep t) (f + j) := fun j => by
    rw [hcr]
    show secAt (brokeS s' keep t).now (f + j) = _
    rw [hnow, ← hp.img]; rfl
  have himg : s.img.length = 64 * s.n := h.ok.n2
  have hlw : ∀ x ∈ s'.loose, x.1 < s.n ∧ x.2.length = 64 := fun x hx => by have := hp.ok.lo x hx; rw [hns] at this; exact this
  have hroom := h.room
  have hle' := h'.le
  have hkey : ∀ k y, s'.loose[k]? = some y → k < needN rec.length ∧ y = (f + at_ + k, recSec gen at_ rec k) := fun k y hy => by
    rw [hwl] at hy
    obtain ⟨b, hb, e⟩ := mapIdx_get hy
    have hk : k < needN rec.length := by
      have := (List.getElem?_eq_some_iff.1 hb).1
      rwa [recSecs_length] at this
    rw [recSecs_get _ _ _ hk] at hb
    cases hb
    exact ⟨hk, e⟩
  have hout : ∀ j, j < N → (j < at_ ∨ at_ + needN rec.length ≤ j) → secsOf (crashD s' keep (t : Int)) f j = secsOf s f j := fun j hj ho => by
    rw [hsec, crashI_other keep himg hlw (by omega) (fun x hx e => by
      obtain ⟨k, hk⟩ := List.getElem?_of_mem hx
      obtain ⟨h1, h2⟩ := hkey k x hk
      rw [h2] at e
      dsimp only at e
      omega) (by omega)]
    unfold secsOf
    rw [hsn]
  have hin : ∀ i, i < needN rec.length → (keptAt keep i = true → secsOf (crashD s' keep (t : Int)) f (at_ + i) = recSec gen at_ rec i) ∧ (keptAt keep i = false → validB gen (at_ + i) (secsOf (crashD s' keep (t : Int)) f (at_ + i)) = false) := fun i hi => by
    have hx : s'.loose[i]? = some (f + at_ + i, recSec gen at_ rec i) := by
      rw [hwl, List.getElem?_mapIdx, recSecs_get _ _ _ hi]; rfl
    have hd : ∀ j y, s'.loose[j]? = some y → y.1 = (f + at_ + i, recSec gen at_ rec i).1 → j = i := fun j y hy e => by
      obtain ⟨h1, h2⟩ := hkey j y hy
      rw [h2] at e
      dsimp only at e
      omega
    have hc := crash_once keep himg hlw hx hd (t := t) (by omega)
    rw [hsec, show f + (at_ + i) = f + at_ + i by omega]
    refine ⟨fun q => hc.1 q, fun q => ?_⟩
    have hz : secAt s.img (f + at_ + i) = zeros64 := by
      have := h.free (at_ + i) (by omega) (by omega)
      unfold secsOf at this
      rw [hsn, show f + (at_ + i) = f + at_ + i by omega] at this
      exact this
    rcases hc.2 q with e | e
    · rw [e]
      show validB gen (at_ + i) (secAt s.img (f + at_ + i)) = false
      rw [hz]; exact not_valid_zeros _ _
    · rw [e]
      show validB gen (at_ + i) ((recSec gen at_ rec i).take t ++ (secAt s.img (f + at_ + i)).drop t) = false
      rw [hz]
      exact not_valid (zeros_front _ _ (recSec_length _ _ _ _) ht)
  refine ⟨hok, fun hall => ?_, fun ⟨i, hi, hk⟩ => ?_⟩
  · refine (h'.of_now hok hpl (by rw [hn, hns]) (fun j hj => ?_)).has
    have hs'j : secsOf s' f j = if f + at_ ≤ f + j then (recSecs gen at_ rec)[f + j - (f + at_)]?.getD (secAt s.now (f + j)) else secAt s.now (f + j) := hp.now (f + j) (by omega)
    rw [hs'j]
    by_cases h1 : j < at_
    · rw [hout j hj (.inl h1), if_neg (by omega)]; rfl
    · rw [if_pos (by omega), show f + j - (f + at_) = j - at_ by omega]
      by_cases h2 : j - at_ < needN rec.length
      · rw [recSecs_get _ _ _ h2]
        have := (hin (j - at_) h2).1 (hall _ h2)
        rw [show at_ + (j - at_) = j by omega] at this
        rw [this]; rfl
      · rw [List.getElem?_eq_none (by rw [recSecs_length]; omega), hout j hj (.inr (by omega))]; rfl
  · -- the first that is lacking
    obtain ⟨m, hm, hkm, hmin⟩ : ∃ m, m < needN rec.length ∧ keptAt keep m = false ∧ ∀ j, j < m → keptAt keep j = true := by
      have key : ∀ d i, i ≤ d → i < needN rec.length → keptAt keep i = false → ∃ m, m < needN rec.length ∧ keptAt keep m = false ∧ ∀ j, j < m → keptAt keep j = true := by
        intro d
        induction d with
        | zero => intro i h0 h1 h2; exact ⟨i, h1, h2, fun j hj => by omega⟩
        | succ d ih =>
          intro i h0 h1 h2
          by_cases hex : ∃ j, j < i ∧ keptAt keep j = false
          · obtain ⟨j, hj, hkj⟩ := hex
            exact ih j (by omega) (by omega) hkj
          · refine ⟨i, h1, h2, fun j hj => ?_⟩
            cases hq : keptAt keep j with
            | true => rfl
            | false => exact absurd ⟨j, hj, hq⟩ hex
      exact key i i (Nat.le_refl _) hi hk
    refine has_of hpl (by rw [hn]; omega) (by rw [hn]; omega) h.g1 h.g2 ?_
    have hpre := h.pre (secsOf (crashD s' keep (t : Int)) f) (N - at_) (fun j hj => hout j (by omega) (.inl hj))
    rw [show N - at_ + at_ = N by have := h.le; omega] at hpre
    rw [hpre]
    exact scan_torn _ hm (fun j hj => (hin j (by omega)).1 (hmin j hj)) ((hin m hm).2 hkm)
end
end Go.Proofs.Ytnblikcfbhbndaa
/- The last region: two lists put together. -/
namespace Go.Proofs.Ytnblikcfbhbndaa
open Go.RowKit

theorem SLB.sl {w : World} {B : Nat} {A : Option Addr} {l : List (List UInt8)} (h : SLB w B A l) : SL w A l := by
  obtain ⟨vs, h1, h2, h3⟩ := h
  refine ⟨vs, h1, fun hl => ?_, fun k x u hx hu => ?_⟩
  · obtain ⟨b, off, e, _, hc⟩ := h2 hl
    exact ⟨b, off, e, hc⟩
  · obtain ⟨A', c, e, hs, hc, _⟩ := h3 k x u hx hu
    exact ⟨_, A', c, e, hs, hc⟩
/-- one append of slices of bytes, at a step of a region that draws its order -/
theorem step_ap {ops : Array Oper} {o : Oper} {a : Act} {w w0 : World} {K : Act → World → Prop} {Q : Exit → Act → World → Prop} {E : Prop} (hw : Region.wanted o (yielded ops a.tmps) = true) (s x : Operand)
    (ho : o.op = .call { callee := .builtin .append, args := #[s, x], argTypes := #[59, 59] }) (B : Nat) (hb : Below B w0 w) (v : Value) (n : Nat) (xs : List Value) (hs : a.eval s = v) (hown : w.ownsRow B 37 1 v n xs)
    (ad : Addr) (m c : Nat) (news : List Value) (hx : a.eval x = .slice (some ad) m c) (hl : news.length = m) (hnews : ∀ j u, news[j]? = some u → w.cell? (ad.add j) = some u) (h1 : ∀ u ∈ news, u.oneCell' = true) (hnm : n + m ≤ 1000) (hB : B ≤ w.heap.size)
    (h : ∀ v' w', w'.ownsRow B 37 1 v' (n + m) (xs ++ news) → w.grownBy w' v.ownBlock → Below B w0 w' → K (a.put o.dst v') w') :
    if Region.wanted o (yielded ops a.tmps) = true then Oper.wp Try.prog o a w K Q else E := by
  rw [if_pos hw]
  obtain ⟨i0, hi0, hz0, hz1, hz2⟩ := info_parts info_row
  obtain ⟨v', w', hr, h2, h3, h4, h5⟩ := run_append_own_at (P := Try.prog) w B 59 o.type 37 i0 _ 1 24 Try.underlying59 hi0 hz0 hz1 hz2 rfl (by omega) v n xs hown ad m c news (by omega) hnews h1 (by simp [maxLen]; omega) (by omega) hB
  unfold Oper.wp execOp
  simp only [ho, resolve, invoke, builtin, Sem.run_bind, Sem.run_pure, Result.andThen_ok, List.map_toArray, List.map_cons, List.map_nil, hs, hx, hr]
  exact h v' w' h2 h3 (hb.trans (below_of_grown h3 hB (fun b e => (World.ownsRow.lt hown b e).1)))
/-- nothing appended to a slice of none -/
theorem run_ap_none (W : World) (ty : TypeId) (q : Addr) (A : Option Addr) (c : Nat) : (Builtin.append_ #[59, 59] ty #[.slice (some q) 0 0, .slice A 0 c]).run Try.prog W = .ok (.slice (some q) 0 0) W := by
  obtain ⟨i0, hi0, hz0, hz1, hz2⟩ := info_parts info_row
  simp [Builtin.append_, run_underlying Try.underlying59, sizeOf, typeInfo, hi0, Builtin.lenOf, Builtin.firstCells, storeCells]
  cases A <;> simp [loadCells, storeCells, loadCellsFrom]
theorem step_ap0 {ops : Array Oper} {o : Oper} {a : Act} {w : World} {K : Act → World → Prop} {Q : Exit → Act → World → Prop} {E : Prop} (hw : Region.wanted o (yielded ops a.tmps) = true) (s x : Operand)
    (ho : o.op = .call { callee := .builtin .append, args := #[s, x], argTypes := #[59, 59] }) (q : Addr) (A : Option Addr) (c : Nat) (hs : a.eval s = .slice (some q) 0 0) (hx : a.eval x = .slice A 0 c)
    (h : K (a.put o.dst (.slice (some q) 0 0)) w) :
    if Region.wanted o (yielded ops a.tmps) = true then Oper.wp Try.prog o a w K Q else E := by
  rw [if_pos hw]
  unfold Oper.wp execOp
  simp only [ho, resolve, invoke, builtin, Sem.run_bind, Sem.run_pure, Result.andThen_ok, List.map_toArray, List.map_cons, List.map_nil, hs, hx, run_ap_none]
  exact h
/-- a slice of none that a call made -/
theorem row_none {w : World} {B q : Nat} (hq : w.heap[q]? = some (.cells #[] 37 (0, 0))) (hB : B ≤ q) : w.ownsRow B 37 1 (.slice (some ⟨q, 0, none⟩) 0 0) 0 [] := ⟨rfl, .inr ⟨q, 0, #[], rfl, hB, hq, Nat.le_refl _, by simp [maxLen], rfl, rfl⟩⟩
theorem one_at {w : World} {q : Nat} {u : Value} (h : w.heap[q]? = some (.cells #[u] 37 (0, 0))) (j : Nat) (x : Value) (hj : ([u] : List Value)[j]? = some x) : w.cell? ((⟨q, 0, none⟩ : Addr).add j) = some x := by
  rw [Addr.add_lit, Nat.zero_add]
  exact Blk.cell (t := 37) h j (by simpa using hj)
/-- a row that was made is a list -/
theorem row_sl {w : World} {B n : Nat} {v : Value} {us : List Value} {l : List (List UInt8)} (h : w.ownsRow B 37 1 v n us) (hn : l.length = n) (hp : 0 < n) (each : ∀ (k : Nat) x u, l[k]? = some x → us[k]? = some u → ∃ B A' c, u = .slice A' x.length c ∧ SB w B A' x.length x ∧ x.length ≤ c) : ∃ A c, v = .slice A l.length c ∧ SL w A l := by
  obtain ⟨g, cap, rfl, -, -⟩ := World.ownsRow.form h hp
  have hc := World.ownsRow.cells h (g := g) rfl
  have hl : us.length = l.length := by have := h.1; omega
  subst hn
  exact ⟨some ⟨g, 0, none⟩, cap, rfl, us, hl, fun _ => ⟨g, 0, rfl, fun j u hj => by have := hc j u hj; rwa [Addr.add_lit] at this⟩, each⟩
end Go.Proofs.Ytnblikcfbhbndaa
/- The law, walked. -/
namespace Go.Proofs.Ytnblikcfbhbndaa
open Go.RowKit

theorem lt_size {w : World} {q : Nat} {o : Obj} (h : w.heap[q]? = some o) : q < w.heap.size := (Array.getElem?_eq_some_iff.1 h).1
theorem KB.keepB {w w' : World} {B n : Nat} {A : Option Addr} {bs : List Bool} (h : KB w A n bs) (hb : Below B w w') (hlt : 0 < n → ∀ b off, A = some ⟨b, off, none⟩ → b < B) : KB w' A n bs :=
  ⟨h.1, fun hn => by
    obtain ⟨b, off, e, hc⟩ := h.2 hn
    exact ⟨b, off, e, fun j x hj => (World.cell?_of_block (hb.block b (hlt hn b off e))).trans (hc j x hj)⟩⟩
def arT : Array Value := #[.int .i64 0, .int .i64 48, .int .i64 5]
theorem arT_eq : arv (areaN 0 48 5) = .agg #[.int .i64 0, .int .i64 48, .int .i64 5] := rfl
set_option maxRecDepth 20000 in
theorem torn_long (A1 A2 A3 : Option Addr) (c1 n2 c2 n3 c3 : Nat) (l : List (List UInt8)) (z : Int) (w : World) (hs : SLB w w.heap.size A1 l) (hm : l.length ≤ 9223372036854775807) (h : longB l 8 150 = true ∨ (longB l 8 150 = false ∧ (400 < n2 ∨ (¬ 400 < n2 ∧ 20 < n3)))) :
    Calls Try.prog 5 #[.slice A1 l.length c1, .slice A2 n2 c2, .slice A3 n3 c3, .int .i64 z] w fun e w' => e = .returned (.bool true) ∧ Below w.heap.size w w' := by
  have HS := hid hs
  clear hs
  rcases h with h | ⟨h, h2 | ⟨h2, h3⟩⟩
  all_goals
    have HL := hid h
    clear h
    go_enter Try.func5, Try.ntmps5
    go_wp2_with fail
    refine (known_calls w).mono ?_
    rintro _ w1 ⟨rfl, h⟩
    have H := hid h
    clear h
    go_wp2_with fail
    refine (longLists_calls A1 c1 l 8 150 _ w1 (HS.out.keepB H.out) hm (by omega) (by omega)).mono ?_
    rintro _ _ ⟨rfl, rfl⟩
    rw [HL.out]
    go_wp2_with fail
    go_ret
    exact ⟨rfl, H.out⟩
attribute [local go_sem] steady
attribute [local irreducible] wpPhase
set_option maxHeartbeats 16000000 in
set_option maxRecDepth 20000 in
theorem torn_short (A1 A2 A3 : Option Addr) (c1 n2 c2 n3 c3 : Nat) (l : List (List UInt8)) (last : List UInt8) (keep : List Bool) (z : Int) (w : World) (hs : SLB w w.heap.size A1 l) (hm : l.length ≤ 9223372036854775807) (hl : longB l 8 150 = false)
    (hs2 : SB w w.heap.size A2 n2 last) (hc2 : n2 ≤ c2) (h2 : n2 ≤ 400) (hkb : KB w A3 n3 keep) (h3 : n3 ≤ 20) :
    Calls Try.prog 5 #[.slice A1 l.length c1, .slice A2 n2 c2, .slice A3 n3 c3, .int .i64 z] w fun e w' => e = .returned (.bool true) ∧ Below w.heap.size w w' := by
  obtain ⟨hl8, hl150⟩ := longB_ok hl
  have HS := hid hs; have HL := hid hl; have HLX := hid hl150; have HS2 := hid hs2; have HKB := hid hkb
  have HKL := hid (fun (hn : 0 < n3) b off (e : A3 = some ⟨b, off, none⟩) => hkb.lt hn b off e)
  have q2 : ¬ 400 < n2 := by omega
  have q3 : ¬ 20 < n3 := by omega
  clear hs hl hl150 hs2 hkb
  go_enter Try.func5, Try.ntmps5
  go_wp2_with fail
  refine (known_calls w).mono ?_
  rintro _ w1 ⟨rfl, h⟩
  have HB := hid h
  clear h
  go_wp2_with fail
  refine (longLists_calls A1 c1 l 8 150 _ w1 (HS.out.keepB HB.out) hm (by omega) (by omega)).mono ?_
  rintro _ _ ⟨rfl, rfl⟩
  rw [HL.out]
  go_wp2_with fail
  clear q2 q3
  refine (room_calls 0 48 5 (by omega) (by omega) (by omega) w1).mono ?_
  rintro _ w2 ⟨g, s0, rfl, hd, hLL, hl0, hn0, hsn0⟩
  rw [arT_eq]
  have HL0 := hid hLL; have HD := hid hd; have Hl0 := hid hl0; have Hsn0 := hid hsn0
  clear hd hLL hl0 hn0 hsn0
  have kz := Blk.new w2 46 #[.int .i64 0, .int .i64 0, .int .i64 0]
  have HNS := hid (new_set w2 46 #[.int .i64 0, .int .i64 0, .int .i64 0] #[.int .i64 0, .int .i64 48, .int .i64 5])
  go_wp2_with (first
    | (refine wpList_alloc_blk rfl 46 rfl _ info_area ?_)
    | (refine wpList_store_blk rfl 46 _ _ rfl w2.heap.size #[.int .i64 0, .int .i64 48, .int .i64 5] rfl rfl 46 _ kz size_area rfl rfl ?_))
  obtain ⟨bA, kA⟩ := HNS.out
  have sA : ((w2.alloc (.cells #[.int .i64 0, .int .i64 0, .int .i64 0] 46)).setRow w2.heap.size #[.int .i64 0, .int .i64 48, .int .i64 5]).heap.size = w2.heap.size + 1 := by simp
  clear kz HNS
  generalize (w2.alloc (.cells #[.int .i64 0, .int .i64 0, .int .i64 0] 46)).setRow w2.heap.size #[.int .i64 0, .int .i64 48, .int .i64 5] = w3 at kA bA sA ⊢
  obtain ⟨F0, hI⟩ : ∃ F0, InS w w3 w1.heap.size w3.heap.size w2.heap.size g F0 s0 A2 n2 last #[.int .i64 0, .int .i64 48, .int .i64 5] := by
    obtain ⟨hb2, F0, hd⟩ := HD.out
    have hb3 := hb2.trans (bA.mono hb2.size)
    exact ⟨F0, ⟨HB.out.trans (hb3.mono HB.out.size), Nat.le_refl _, hd.keep bA, fun b hb => by have := (hd.lt b hb).2; omega, kA, by omega, fun hm => by have := (hd.lt _ hm).2; omega, (HS2.out.keep HB.out).keep (hb3.mono (Nat.le_refl _)), HB.out.size, by have := hb2.size; omega⟩⟩
  have HI := hid hI
  have HGW := hid (show w2.heap.size < w3.heap.size from by omega)
  have HW3 := hid (show w.heap.size ≤ w3.heap.size from hI.below.size)
  clear kA bA sA HD HB hI
  generalize hG : w2.heap.size = G at HI HGW ⊢
  go_loopw [12, 13, 14, 15] (fun v12 v13 _ _ wr => ∃ (i at_ : Nat) (s : DS) (F : List Nat), v12 = .int .i64 (at_ : Int) ∧ v13 = .int .i64 (i : Int) ∧ i ≤ l.length ∧ at_ ≤ 4 * i ∧
      Hid (InS w wr w1.heap.size wr.heap.size G g F s A2 n2 last #[.int .i64 0, .int .i64 48, .int .i64 5]) ∧ Hid (LogS 0 48 5 at_ (l.take i) s) ∧ Hid (s.loose = []) ∧ Hid (s.now = s.img)) (fun _ v13 _ _ _ => l.length - (intOf v13).toNat)
  case atStart => exact ⟨0, 0, s0, F0, rfl, rfl, Nat.zero_le _, Nat.zero_le _, HI, HL0, Hl0, Hsn0⟩
  case round =>
    clear HI HL0 Hl0 Hsn0
    obtain ⟨i, at_, s, F, rfl, rfl, hi, hat, HJ, HLS, HLO, HSN⟩ := hrel
    by_cases hlt : i < l.length
    · have hlt' : (i : Int) < (l.length : Int) := by omega
      obtain ⟨b, off, A', c', x, rfl, hbl, hx, hcx, hsx, hxc, -⟩ := (HS.out.keepB HJ.out.below).at_ hlt
      have hx150 := HLX.out x (List.mem_of_getElem? hx)
      have HCX := hid hcx; have HSX := hid hsx; have HXL := hid hx
      clear hx hcx hsx
      have hneed : needN x.length ≤ 4 := by unfold needN; omega
      obtain ⟨s', hR, hL2, hP2⟩ := HLS.out.write (rec := x) (by omega) (by omega)
      have hlo : s.loose.length = 0 := by rw [HLO.out]; rfl
      have HWR := hid (lgWrite_calls w1.heap.size g F s wr.drew (areaN 0 48 5) (at_ : Int) A' x.length c' w.heap.size x HJ.out.drew.dev (Nat.le_trans HJ.out.bw HJ.out.size) (HLS.out.plain.ok (by omega)) (by omega) HSX.out.drew hxc (fun hp b off e hm => by
        have h1 := (HJ.out.dev.lt b hm).1
        have h2 := HJ.out.lo
        obtain ⟨b', off', e', hlt, -⟩ := HSX.out.2 hp
        rw [e] at e'; cases e'
        omega))
      rw [hR, arT_eq] at HWR
      dsimp only at HWR
      rw [show ((0 : Nat) : Int) = 0 from rfl] at HWR
      have HL2 := hid (show LogS 0 48 5 (at_ + needN x.length) (l.take (i + 1)) s' from by
        rw [List.take_add_one, HXL.out]
        exact hL2)
      have HP2 := hid hP2
      clear hR hL2 hP2
      have hpost : ∀ w', DevAt wr.drew w1.heap.size F g s' w' → ∃ F', InS w w' w1.heap.size w'.heap.size G g F' s' A2 n2 last #[.int .i64 0, .int .i64 48, .int .i64 5] ∧ Chg F wr.drew w' ∧ ∀ b ∈ F', b ∈ F ∨ wr.drew.heap.size ≤ b := fun w' hp => HJ.out.drew.at_ hp
      have HPO := hid hpost
      have HLT := hid (lt_of_cell HCX.out)
      have hcells : ((wr.drew.cell? ⟨G, 0, none⟩ = some (.int .i64 0) ∧ wr.drew.cell? ⟨G, 1, none⟩ = some (.int .i64 48) ∧ wr.drew.cell? ⟨G, 2, none⟩ = some (.int .i64 5)) ∧ wr.drew.cell? ⟨b, off + i, none⟩ = some (.slice A' x.length c')) :=
        ⟨⟨HJ.out.area.cell 0 rfl, HJ.out.area.cell 1 rfl, HJ.out.area.cell 2 rfl⟩, HCX.out⟩
      have HCH := hid (fun w' (h : Chg F wr.drew w') => cell_chg hcells.2 h (fun hm => by
        have h1 := (HJ.out.dev.lt b hm).1
        have h2 := HJ.out.lo
        omega))
      clear hpost
      generalize hxm : x.length = m at hcells hxc HWR HCH hneed HL2
      generalize hTT : at_ + needN m = T at HL2 HWR
      go_wp2_with fail
      refine wp_region_phase (fun k w' => (k = 0 ∧ w' = wr.drew) ∨ (k = 1 ∧ DevAt wr.drew w1.heap.size F g s' w')) (fun w' => (w'.cell? ⟨G, 0, none⟩ = some (.int .i64 0) ∧ w'.cell? ⟨G, 1, none⟩ = some (.int .i64 48) ∧ w'.cell? ⟨G, 2, none⟩ = some (.int .i64 5)) ∧ w'.cell? ⟨b, off + i, none⟩ = some (.slice A' m c')) (fun k w' h => by
        rcases h with ⟨-, rfl⟩ | ⟨-, hp⟩
        · exact hcells
        · obtain ⟨F', h1, h2, -⟩ := HPO.out w' hp
          exact ⟨⟨h1.area.cell 0 rfl, h1.area.cell 1 rfl, h1.area.cell 2 rfl⟩, HCH.out w' h2⟩) (by kernel_rfl) (by kernel_rfl) (by kernel_rfl) (.inl ⟨rfl, rfl⟩) ?_
      intro S _ st hS
      have e0 := fun z => (hS z).1.1
      have e1 := fun z => (hS z).1.2.1
      have e2 := fun z => (hS z).1.2.2
      have e3 := fun z => (hS z).2
      clear hS hcells
      (refine phase_plain rfl (fun K hK => ?_); go_simp; refine hK _ ?_; clear hK K)
      (refine phase_plain rfl (fun K hK => ?_); go_simp; refine hK _ ?_; clear hK K)
      (refine phase_plain rfl (fun K hK => ?_); go_simp; refine hK _ ?_; clear hK K)
      (refine phase_plain rfl (fun K hK => ?_); go_simp; refine hK _ ?_; clear hK K)
      (refine phase_plain rfl (fun K hK => ?_); go_simp; refine hK _ ?_; clear hK K)
      (refine phase_plain rfl (fun K hK => ?_); go_simp; refine hK _ ?_; clear hK K)
      (refine phase_plain rfl (fun K hK => ?_); go_simp; refine hK _ ?_; clear hK K)
      refine phase_call rfl rfl 28 #[.pointer (some ⟨g, 0, none⟩), .agg #[.int .i64 0, .int .i64 48, .int .i64 5], .int .i64 (at_ : Int), .slice A' m c'] (fun w => by go_simp) (.tuple #[.int .i64 (T : Int), .int .i64 0]) (fun w' hw => ?_) ?_
      · rcases hw with ⟨-, rfl⟩ | ⟨h, -⟩
        · exact HWR.out.mono fun e w'' ⟨he, hp⟩ => ⟨he, .inr ⟨rfl, hp⟩⟩
        · cases h
      (refine phase_plain rfl (fun K hK => ?_); go_simp; refine hK _ ?_; clear hK K)
      (refine phase_plain rfl (fun K hK => ?_); go_simp; refine hK _ ?_; clear hK K)
      (refine phase_plain rfl (fun K hK => ?_); go_simp; refine hK _ ?_; clear hK K)
      (refine phase_plain rfl (fun K hK => ?_); go_simp; refine hK _ ?_; clear hK K)
      (refine phase_plain rfl (fun K hK => ?_); go_simp; refine hK _ ?_; clear hK K)
      refine phase_nil ?_
      rintro w4 (⟨h, -⟩ | ⟨-, hp⟩)
      · cases h
      clear e0 e1 e2 e3 HWR HCH
      obtain ⟨F', hK, hcg, hF'⟩ := HPO.out w4 hp
      have HK := hid hK
      clear hp hK hcg hF' HPO HCX HJ HSX
      obtain ⟨f1, f2, f3⟩ := HL2.out.flush
      have hsane : Sane s' := HP2.out.sane (by unfold Sane; rw [HLO.out, HSN.out]; rfl)
      have hlo' : s'.loose.length ≤ 4 := by rw [HP2.out.loose, HLO.out]; simp [recSecs, hxm]; omega
      have HFL := hid (dFlush_calls w1.heap.size g F' s' w4 HK.out.dev (HL2.out.plain.ok (by omega)).1 (by omega))
      rw [f1] at HFL
      have HF3 := hid f3
      have HLN := hid (show (flushD s').loose = [] from by rw [f2]; rfl)
      have HSN2 := hid (show (flushD s').now = (flushD s').img from by rw [f2]; exact hsane)
      clear f1 f2 f3 hsane hlo' hlo HLS HLO HSN HP2 HL2
      generalize flushD s' = s2 at HFL HF3 HLN HSN2
      go_wp2_with fail
      refine HFL.out.mono ?_
      rintro _ w5 hp
      obtain ⟨he, hq⟩ := DevAt.of_post hp
      subst he
      obtain ⟨F2, hI5, -, -⟩ := HK.out.at_ hq
      have HK5 := hid hI5
      clear hp hq hI5 HFL HK
      rw [show ((0 : Nat) : Int) = 0 from rfl]
      have hT : T ≤ 4 * (i + 1) := by omega
      clear hTT hxm hneed
      go_wp2_with fail
      go_roundw
      case rel => exact ⟨i + 1, T, s2, F2, rfl, by go_num, by omega, hT, HK5, HF3, HLN, HSN2⟩
      case measure => simp [intOf]; omega
    · obtain rfl : i = l.length := by omega
      have HLS := hid (show LogS 0 48 5 at_ l s from by have h := HLS.out; rw [List.take_length] at h; exact h)
      have hlen := HS2.out.1
      have hneed : needN last.length ≤ 9 := by unfold needN; omega
      obtain ⟨s', hR, hL2, hP2⟩ := HLS.out.write (rec := last) (by omega) (by omega)
      have hlo : s.loose.length = 0 := by rw [HLO.out]; rfl
      have HWR := hid (lgWrite_calls w1.heap.size g F s wr (areaN 0 48 5) (at_ : Int) A2 n2 c2 w.heap.size last HJ.out.dev (Nat.le_trans HJ.out.bw HJ.out.size) (HLS.out.plain.ok (by omega)) (by omega) HJ.out.text hc2 (fun hp b off e hm => by
        have h1 := (HJ.out.dev.lt b hm).1
        have h2 := HJ.out.lo
        obtain ⟨b', off', e', hlt, -⟩ := HJ.out.text.2 hp
        rw [e] at e'; cases e'
        omega))
      rw [hR, arT_eq] at HWR
      dsimp only at HWR
      rw [show ((0 : Nat) : Int) = 0 from rfl] at HWR
      have t1 := Int.emod_nonneg z (show (64 : Int) ≠ 0 by omega)
      have t2 := Int.emod_lt_of_pos z (show (0 : Int) < 64 by omega)
      obtain ⟨u, hu⟩ : ∃ u : Nat, z % 64 = (u : Int) := ⟨(z % 64).toNat, by omega⟩
      have hu64 : u < 64 := by omega
      have HU := hid hu
      obtain ⟨r1, r2, r3⟩ := torn_has HLS.out hL2 hP2 HLO.out HSN.out (by omega) keep u hu64
      have HR2 := hid r2; have HR3 := hid r3
      have hlo2 : s'.loose.length = needN last.length := by rw [hP2.loose, HLO.out]; simp [recSecs]
      have HPL := hid (hL2.plain.ok (s := s') (by omega))
      clear r1 r2 r3 hR hL2 hP2 t1 t2 hu HLO HSN
      generalize hnd : needN last.length = nd at HWR HR2 HR3 hneed hlo2
      have c0 := HJ.out.area.cell 0 rfl
      have c1' := HJ.out.area.cell 1 rfl
      have c2' := HJ.out.area.cell 2 rfl
      go_wp2_with fail
      refine HWR.out.mono ?_
      rintro _ w4 ⟨rfl, hp⟩
      obtain ⟨F2, hI4, -, -⟩ := HJ.out.at_ hp
      have HK := hid hI4
      clear c0 c1' c2' hp hI4 HWR HJ
      have hdif : IntKind.i64.wrap (((at_ + nd : Nat) : Int) - (at_ : Int)) = (nd : Int) := by rw [wrap_in _ (by omega)]; omega
      have HLL := hid (dLoose_calls w1.heap.size g F2 s' w4 HK.out.dev)
      rw [hlo2] at HLL
      have hbw := HK.out.below
      have hKB4 := HKB.out.keepB hbw HKL.out
      have HCR := hid (fun (W : World) (hW : W = w4) => dCrash_calls w1.heap.size g F2 s' w4 n3 c3 A3 keep (u : Int) HK.out.dev (by omega) hKB4 (fun hn b off e hm => by
        have h1 := (HK.out.dev.lt b hm).1
        have h2 := HK.out.lo
        have h3 := HKL.out hn b off e
        omega) (by omega))
      have hce : crashE (u : Int) = 0 := by unfold crashE; rw [if_pos (by omega)]
      rw [hce] at HCR
      clear hce hbw hKB4
      generalize hTn : at_ + nd = T at hdif HR2 ⊢
      go_wp2_with fail
      refine HLL.out.mono ?_
      rintro _ _ ⟨rfl, rfl⟩
      go_wp2_with fail
      refine (pick_calls z 64 w4 (by omega) (by omega)).mono ?_
      rintro _ _ ⟨rfl, rfl⟩
      rw [HU.out]
      go_wp2_with fail
      refine (HCR.out _ rfl).mono ?_
      rintro _ w5 hp
      obtain ⟨he, hq⟩ := DevAt.of_post hp
      subst he
      obtain ⟨F3, hI5, -, -⟩ := HK.out.at_ hq
      have HK := hid hI5
      clear hp hq hI5 HLL HCR HPL hlo hlo2
      rw [show ((0 : Nat) : Int) = 0 from rfl]
      go_wp2_with fail
      generalize crashD s' keep (u : Int) = sc at HR2 HR3 HK
      go_loop [18] (fun v => ∃ j : Nat, v = .int .i64 (j : Int) ∧ j ≤ nd ∧ Hid (∀ k, k < j → keptAt keep k = true)) (fun v => nd - (intOf v).toNat)
      case atStart => exact ⟨0, rfl, Nat.zero_le _, hid (fun k hk => absurd hk (by omega))⟩
      case round =>
        obtain ⟨j, rfl, hj, HKE⟩ := hrel
        by_cases hjn : j < nd
        · have hjn' : (j : Int) < (nd : Int) := by omega
          cases hkj : keptAt keep j with
          | false =>
            have HH := hid (lgHas_calls (areaN 0 48 5) (at_ : Int) A1 c1 l HK.out.dev1 (HS.out.keepB HK.out.below).sl)
            rw [HR3.out ⟨j, hjn, hkj⟩, arT_eq] at HH
            have c0 := HK.out.area.cell 0 rfl
            have c1' := HK.out.area.cell 1 rfl
            have c2' := HK.out.area.cell 2 rfl
            have HE := hid HK.out.below
            by_cases hn3 : j < n3
            · have q1 : ¬ (n3 : Int) ≤ (j : Int) := by omega
              have hKB5 := HKB.out.keepB HK.out.below HKL.out
              obtain ⟨b3, o3, e3, hc3⟩ := hKB5.2 (by omega)
              have hcell := hc3 j false (by
                have hlk : j < keep.length := by have := hKB5.1; omega
                unfold keptAt at hkj
                rw [List.getElem?_eq_getElem hlk] at hkj ⊢
                simpa using hkj)
              subst e3
              clear hc3 hKB5
              go_wp2_with fail
              refine HH.out.mono ?_
              rintro _ w6 ⟨rfl, hb6⟩
              have HE := hid (HE.out.trans (hb6.mono HE.out.size))
              clear hb6
              go_wp2_with fail
              go_ret
              exact ⟨rfl, HE.out⟩
            · have q1 : (n3 : Int) ≤ (j : Int) := by omega
              go_wp2_with fail
              refine HH.out.mono ?_
              rintro _ w6 ⟨rfl, hb6⟩
              have HE := hid (HE.out.trans (hb6.mono HE.out.size))
              clear hb6
              go_wp2_with fail
              go_ret
              exact ⟨rfl, HE.out⟩
          | true =>
            have hlk : j < keep.length := by
              rcases Nat.lt_or_ge j keep.length with h | h
              · exact h
              · unfold keptAt at hkj
                rw [List.getElem?_eq_none h] at hkj
                cases hkj
            have hKB5 := HKB.out.keepB HK.out.below HKL.out
            have hn3 : j < n3 := by have := hKB5.1; omega
            have q1 : ¬ (n3 : Int) ≤ (j : Int) := by omega
            obtain ⟨b3, o3, e3, hc3⟩ := hKB5.2 (by omega)
            have hcell := hc3 j true (by
              unfold keptAt at hkj
              rw [List.getElem?_eq_getElem hlk] at hkj ⊢
              simpa using hkj)
            subst e3
            have HKE2 := hid (fun k (hk : k < j + 1) => show keptAt keep k = true from by
              by_cases e : k = j
              · subst e; exact hkj
              · exact HKE.out k (by omega))
            clear hc3 hKB5 HKE hkj
            go_wp2_with fail
            go_round
            case rel => exact ⟨j + 1, by go_num, by omega, HKE2⟩
            case measure => simp [intOf]; omega
        · obtain rfl : j = nd := by omega
          have HAS := hid (HR2.out (fun k hk => HKE.out k hk))
          clear HR2 HR3 HKE
          have c0 : w5.drew.cell? ⟨G, 0, none⟩ = some (.int .i64 0) := HK.out.area.cell 0 rfl
          have c1' : w5.drew.cell? ⟨G, 1, none⟩ = some (.int .i64 48) := HK.out.area.cell 1 rfl
          have c2' : w5.drew.cell? ⟨G, 2, none⟩ = some (.int .i64 5) := HK.out.area.cell 2 rfl
          have hgl : G < w5.heap.size := HK.out.area.lt
          have HKW := hid (fun W (hb : Below w5.heap.size w5 W) => (⟨((HK.out.keep hb).area.cell 0 rfl), ((HK.out.keep hb).area.cell 1 rfl), ((HK.out.keep hb).area.cell 2 rfl)⟩ : W.cell? ⟨G, 0, none⟩ = some (.int .i64 0) ∧ W.cell? ⟨G, 1, none⟩ = some (.int .i64 48) ∧ W.cell? ⟨G, 2, none⟩ = some (.int .i64 5)))
          have hN5 : w.heap.size ≤ w5.heap.size := HK.out.below.size
          have HHAS := hid (fun W A c (hb : Below w5.heap.size w5 W) (hsl : SL W A (l ++ [last])) => lgHas_calls (areaN 0 48 5) (T : Int) A c (l ++ [last]) (HK.out.keep hb).dev1 hsl)
          rw [HAS.out, arT_eq] at HHAS
          rw [show (l ++ [last]).length = l.length + 1 from by simp] at HHAS
          have HBW := hid (fun W (hb : Below w5.heap.size w5 W) => HK.out.below.trans (hb.mono hN5))
          have bA : Below w5.heap.size w5 (w5.alloc (.cells #[] 37)).drew := (below_new w5 _).drew
          have kA : (w5.alloc (.cells #[] 37)).drew.heap[w5.heap.size]? = some (.cells #[] 37 (0, 0)) := Blk.new w5 37 #[]
          have bB : Below w5.heap.size w5 ((w5.alloc (.cells #[] 37)).alloc (.cells #[.slice A2 n2 c2] 37)).drew := ((below_new w5 _).alloc (by simp) _).drew
          have kB : ((w5.alloc (.cells #[] 37)).alloc (.cells #[.slice A2 n2 c2] 37)).drew.heap[w5.heap.size]? = some (.cells #[] 37 (0, 0)) := (Blk.new w5 37 #[]).alloc _
          have oB : ((w5.alloc (.cells #[] 37)).alloc (.cells #[.slice A2 n2 c2] 37)).drew.heap[w5.heap.size + 1]? = some (.cells #[.slice A2 n2 c2] 37 (0, 0)) := by
            have := Blk.new (w5.alloc (.cells #[] 37)) 37 #[.slice A2 n2 c2]
            rw [size_new] at this
            exact this
          have bC : Below w5.heap.size w5 ((w5.alloc (.cells #[.slice A2 n2 c2] 37)).alloc (.cells #[] 37)).drew := ((below_new w5 _).alloc (by simp) _).drew
          have kC : ((w5.alloc (.cells #[.slice A2 n2 c2] 37)).alloc (.cells #[] 37)).drew.heap[w5.heap.size + 1]? = some (.cells #[] 37 (0, 0)) := by
            have := Blk.new (w5.alloc (.cells #[.slice A2 n2 c2] 37)) 37 #[]
            rw [size_new] at this
            exact this
          have oC : ((w5.alloc (.cells #[.slice A2 n2 c2] 37)).alloc (.cells #[] 37)).drew.heap[w5.heap.size]? = some (.cells #[.slice A2 n2 c2] 37 (0, 0)) := (Blk.new w5 37 #[.slice A2 n2 c2]).alloc _
          have HLS2 := hid HLS.out
          clear HLS HL HAS HU hdif hnd
          rcases Nat.eq_zero_or_pos l.length with hl0 | hlp
          · obtain rfl : l = [] := List.eq_nil_of_length_eq_zero hl0
            have HEA := hid (fun W (hb : Below w5.heap.size w5 W) (k : Nat) x u (hx : ([last] : List (List UInt8))[k]? = some x) (hu : (([] : List Value) ++ [Value.slice A2 n2 c2])[k]? = some u) => show ∃ B A' c, u = .slice A' x.length c ∧ SB W B A' x.length x ∧ x.length ≤ c from by
              match k with
              | 0 =>
                cases hx; cases hu
                rw [hlen]
                exact ⟨_, A2, c2, rfl, (HK.out.keep hb).text, hc2⟩
              | k + 1 => simp at hx)
            have HHAS := hid (show ∀ W A c, Below w5.heap.size w5 W → SL W A [last] → Calls Try.prog 50 #[.pointer (some ⟨g, 0, none⟩), .agg #[.int .i64 0, .int .i64 48, .int .i64 5], .int .i64 (T : Int), .slice A 1 c] W fun e w' => e = .returned (.bool true) ∧ Below W.heap.size W w' from HHAS.out)
            clear HS HKB HKL HLX hl0
            go_wp2_with fail
            go_region_held3 (fun W => W.cell? ⟨G, 0, none⟩ = some (.int .i64 0) ∧ W.cell? ⟨G, 1, none⟩ = some (.int .i64 48) ∧ W.cell? ⟨G, 2, none⟩ = some (.int .i64 5)) (first | assumption | exact ⟨c0, c1', c2'⟩ | exact HKW.out _ b9 | exact HKW.out _ b8 | exact HKW.out _ bA | exact HKW.out _ bB | exact HKW.out _ bC | exact HKW.out _ (below_new w5 _).drew) (first
              | (refine step_ap0 (by rfl) (.tmp 121) (.tmp 122) (by rfl) ⟨w5.heap.size, 0, none⟩ A1 c1 (by rfl) (by rfl) ?_)
              | (refine step_ap0 (by rfl) (.tmp 121) (.tmp 122) (by rfl) ⟨w5.heap.size + 1, 0, none⟩ A1 c1 (by rfl) (by rfl) ?_)
              | (refine step_ap (by rfl) (.tmp 123) (.tmp 125) (by rfl) w5.heap.size bB (.slice (some ⟨w5.heap.size, 0, none⟩) 0 0) 0 [] (by rfl) (row_none kB (by omega)) ⟨w5.heap.size + 1, 0, none⟩ 1 1 [Value.slice A2 n2 c2] (by rfl) rfl (one_at oB) (by simp [Value.oneCell']) (by omega) bB.size ?_; intro v8 w8 h8 g8 b8; obtain ⟨A8, c8, hv8, hsl8⟩ := row_sl (l := [last]) h8 (by simp) (by omega) (HEA.out w8 b8); rw [show ([last] : List (List UInt8)).length = 1 from rfl] at hv8; subst hv8)
              | (refine step_ap (by rfl) (.tmp 123) (.tmp 125) (by rfl) w5.heap.size bC (.slice (some ⟨w5.heap.size + 1, 0, none⟩) 0 0) 0 [] (by rfl) (row_none kC (by omega)) ⟨w5.heap.size, 0, none⟩ 1 1 [Value.slice A2 n2 c2] (by rfl) rfl (one_at oC) (by simp [Value.oneCell']) (by omega) bC.size ?_; intro v8 w8 h8 g8 b8; obtain ⟨A8, c8, hv8, hsl8⟩ := row_sl (l := [last]) h8 (by simp) (by omega) (HEA.out w8 b8); rw [show ([last] : List (List UInt8)).length = 1 from rfl] at hv8; subst hv8)
              | (go_at_call 50; refine (HHAS.out w8 A8 c8 b8 hsl8).mono ?_; rintro _ w9 ⟨rfl, hb9⟩; have b9 := b8.trans (hb9.mono b8.size)))
            all_goals
              go_wp2_with fail
              go_ret
              exact ⟨rfl, HBW.out w9 b9⟩
          · obtain ⟨us, hul, hur, hue⟩ := HS.out
            obtain ⟨b0, off0, rfl, hb0, hc0⟩ := hur hlp
            have HN := hid (fun W (hb : Below w5.heap.size w5 W) (j : Nat) u (hj : us[j]? = some u) => show W.cell? ((⟨b0, off0, none⟩ : Addr).add j) = some u from by
              rw [Addr.add_lit]
              exact (World.cell?_of_block ((HBW.out W hb).block b0 hb0)).trans (hc0 j u hj))
            have HEA := hid (fun W (hb : Below w5.heap.size w5 W) (k : Nat) x u (hx : (l ++ [last])[k]? = some x) (hu : (us ++ [Value.slice A2 n2 c2])[k]? = some u) => show ∃ B A' c, u = .slice A' x.length c ∧ SB W B A' x.length x ∧ x.length ≤ c from by
              rw [List.getElem?_append] at hx hu
              by_cases hk : k < l.length
              · rw [if_pos hk] at hx
                rw [if_pos (by omega)] at hu
                obtain ⟨A', c', e, h1, h2, -⟩ := hue k x u hx hu
                exact ⟨_, A', c', e, h1.keepB (HBW.out W hb), h2⟩
              · rw [if_neg hk] at hx
                rw [if_neg (by omega)] at hu
                have e1 : k - l.length = 0 := by
                  have := (List.getElem?_eq_some_iff.1 hx).1
                  simp at this; omega
                have e2 : k - us.length = 0 := by omega
                rw [e1] at hx
                rw [e2] at hu
                cases hx; cases hu
                rw [hlen]
                exact ⟨_, A2, c2, rfl, (HK.out.keep hb).text, hc2⟩)
            have h1c : ∀ u ∈ us, u.oneCell' = true := fun u hu => by
              obtain ⟨k, hk, rfl⟩ := List.mem_iff_getElem.1 hu
              obtain ⟨A', c', e, -⟩ := hue k (l[k]'(by omega)) _ (List.getElem?_eq_getElem (by omega)) (List.getElem?_eq_getElem hk)
              rw [e]; rfl
            have HUL := hid hul
            clear hur hc0 hue HS HKB HKL HLX
            go_wp2_with fail
            go_region_held3 (fun W => W.cell? ⟨G, 0, none⟩ = some (.int .i64 0) ∧ W.cell? ⟨G, 1, none⟩ = some (.int .i64 48) ∧ W.cell? ⟨G, 2, none⟩ = some (.int .i64 5)) (first | assumption | exact ⟨c0, c1', c2'⟩ | exact HKW.out _ b9 | exact HKW.out _ b8 | exact HKW.out _ b7 | exact HKW.out _ (b7.trans ((below_new w7 _).mono b7.size)) | exact HKW.out _ bA | exact HKW.out _ bB | exact HKW.out _ bC | exact HKW.out _ (below_new w5 _).drew) (first
              | (refine step_ap (by rfl) (.tmp 121) (.tmp 122) (by rfl) w5.heap.size bA (.slice (some ⟨w5.heap.size, 0, none⟩) 0 0) 0 [] (by rfl) (row_none kA (by omega)) ⟨b0, off0, none⟩ l.length c1 us (by rfl) HUL.out (HN.out _ bA) h1c (by omega) bA.size ?_; intro v7 w7 h7 g7 b7; rw [Nat.zero_add, List.nil_append] at h7)
              | (refine step_ap (by rfl) (.tmp 121) (.tmp 122) (by rfl) w5.heap.size bB (.slice (some ⟨w5.heap.size, 0, none⟩) 0 0) 0 [] (by rfl) (row_none kB (by omega)) ⟨b0, off0, none⟩ l.length c1 us (by rfl) HUL.out (HN.out _ bB) h1c (by omega) bB.size ?_; intro v7 w7 h7 g7 b7; rw [Nat.zero_add, List.nil_append] at h7)
              | (refine step_ap (by rfl) (.tmp 121) (.tmp 122) (by rfl) w5.heap.size bC (.slice (some ⟨w5.heap.size + 1, 0, none⟩) 0 0) 0 [] (by rfl) (row_none kC (by omega)) ⟨b0, off0, none⟩ l.length c1 us (by rfl) HUL.out (HN.out _ bC) h1c (by omega) bC.size ?_; intro v7 w7 h7 g7 b7; rw [Nat.zero_add, List.nil_append] at h7)
              | (refine step_ap (by rfl) (.tmp 123) (.tmp 125) (by rfl) w5.heap.size (b7.trans ((below_new w7 _).mono b7.size)) v7 l.length us (by rfl) (ownsRow_chg h7 (Chg.of_below (L := []) (below_new w7 _)) (fun _ _ => by simp)) ⟨w7.heap.size, 0, none⟩ 1 1 [Value.slice A2 n2 c2] (by rfl) rfl (cell_one_new w7 (Value.slice A2 n2 c2) 37) (by simp [Value.oneCell']) (by omega) (b7.trans ((below_new w7 (.cells #[Value.slice A2 n2 c2] 37)).mono b7.size)).size ?_; intro v8 w8 h8 g8 b8; obtain ⟨A8, c8, hv8, hsl8⟩ := row_sl h8 (by simp) (by omega) (HEA.out w8 b8); rw [show (l ++ [last]).length = l.length + 1 from by simp] at hv8; subst hv8)
              | (refine step_ap (by rfl) (.tmp 123) (.tmp 125) (by rfl) w5.heap.size b7 v7 l.length us (by rfl) h7 ⟨w5.heap.size + 1, 0, none⟩ 1 1 [Value.slice A2 n2 c2] (by rfl) rfl (one_at ((g7.block _ (lt_size oB) (fun e => by simp [Value.ownBlock] at e)).trans oB)) (by simp [Value.oneCell']) (by omega) b7.size ?_; intro v8 w8 h8 g8 b8; obtain ⟨A8, c8, hv8, hsl8⟩ := row_sl h8 (by simp) (by omega) (HEA.out w8 b8); rw [show (l ++ [last]).length = l.length + 1 from by simp] at hv8; subst hv8)
              | (refine step_ap (by rfl) (.tmp 123) (.tmp 125) (by rfl) w5.heap.size b7 v7 l.length us (by rfl) h7 ⟨w5.heap.size, 0, none⟩ 1 1 [Value.slice A2 n2 c2] (by rfl) rfl (one_at ((g7.block _ (lt_size oC) (fun e => by simp [Value.ownBlock] at e)).trans oC)) (by simp [Value.oneCell']) (by omega) b7.size ?_; intro v8 w8 h8 g8 b8; obtain ⟨A8, c8, hv8, hsl8⟩ := row_sl h8 (by simp) (by omega) (HEA.out w8 b8); rw [show (l ++ [last]).length = l.length + 1 from by simp] at hv8; subst hv8)
              | (go_at_call 50; refine (HHAS.out w8 A8 c8 b8 hsl8).mono ?_; rintro _ w9 ⟨rfl, hb9⟩; have b9 := b8.trans (hb9.mono b8.size)))
            all_goals
              go_wp2_with fail
              go_ret
              exact ⟨rfl, HBW.out w9 b9⟩
end Go.Proofs.Ytnblikcfbhbndaa
