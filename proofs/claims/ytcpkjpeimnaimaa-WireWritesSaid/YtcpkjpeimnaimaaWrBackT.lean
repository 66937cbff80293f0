/- Things: how many bytes they have; what a writer is behind them; writes and reads of each. -/
import Derived.Test.YtcpkjpeimnaimaaWrReads5
import Derived.Test.YtcpkjpeimnaimaaWrReads2
namespace Go.Proofs.Ytcpkjpeimnaimaa
open Go.RowKit

theorem encI_len {z : Int} (h : lt63 z) : (encI z).length ≤ 9 := by
  unfold lt63 at h
  have := (encSize_le (n := z.toNat) (by omega)).2
  rw [show (encI z).length = encSize z.toNat from enc_length _]; exact this
theorem numI_len {z : Int} (h : lt63 z) : ((numI z).getD []).length ≤ 9 := by
  unfold numI
  split
  · simp
  · exact encI_len h
theorem flat_cons (i : Item) (l : List Item) : flat (i :: l) = i.getD [] ++ flat l := rfl
theorem nums_len (zs : List Int) (h : ∀ z ∈ zs, lt63 z) : (flat (zs.map numI)).length ≤ 9 * zs.length := by
  induction zs with
  | nil => simp [flat]
  | cons z zs ih =>
    rw [List.map_cons, flat_cons, List.length_append, List.length_cons]
    have h1 := numI_len (h z (by simp))
    have h2 := ih (fun y hy => h y (by simp [hy]))
    omega
theorem thB_len {t : Th} (hf : TFit t) : (thB t).length ≤ 549 := by
  have h1 := numI_len hf.n
  have h2 := numI_len hf.x
  have h3 := numI_len hf.y
  have h4 := numI_len (z := (t.cs.length : Int)) (by have := hf.cs; unfold lt63; omega)
  have h5 := numI_len (z := (t.zs.length : Int)) (by have := hf.zs; unfold lt63; omega)
  have h6 := nums_len t.zs hf.z
  have h7 := numI_len (z := if t.b then 1 else 0) (by unfold lt63; split <;> omega)
  have c1 := hf.cs; have c2 := hf.zs; have c3 := hf.id
  unfold thB thItems
  split
  · simp only [flat_cons, flat_nil, List.append_nil]; omega
  split
  · simp only [flat_cons, flat_nil, List.append_nil, List.length_append, Option.getD_some]; omega
  split
  · simp only [flat_cons, flat_nil, List.append_nil, Option.getD_some]; omega
  split
  · simp only [flat_cons, flat_nil, List.append_nil, List.length_append]; omega
  split
  · simp only [flat_cons, List.length_append]; omega
  split
  · simp only [flat_cons, flat_nil, List.append_nil]; omega
  · simp [flat]
theorem allTB_len {l : List Th} (hf : ∀ t ∈ l, TFit t) : (allTB l).length ≤ 549 * l.length := by
  induction l with
  | nil => simp [allTB]
  | cons t l ih =>
    have h1 := thB_len (hf t (by simp))
    have h2 := ih (fun y hy => hf y (by simp [hy]))
    simp only [allTB, List.flatMap_cons, List.length_append, List.length_cons] at *
    omega
theorem put_neg {lim : Nat} {bs : List UInt8} {l : List Item} (h : anyNeg l = true) : putW lim ⟨bs, 0⟩ l = ⟨bs, 3⟩ := by
  unfold putW
  rw [if_neg (by simp), if_pos h]
theorem put_pos {lim : Nat} {bs : List UInt8} {l : List Item} (h : anyNeg l = false) (hl : bs.length + (flat l).length ≤ lim) : putW lim ⟨bs, 0⟩ l = ⟨bs ++ flat l, 0⟩ := by
  unfold putW
  rw [if_neg (by simp), if_neg (by simp [h]), if_neg (by simp only; omega)]
section
variable (base g f : Nat) (r : Option Nat) (lim : Nat) (s : WS) (t : Th) (w : World)
set_option maxHeartbeats 1000000 in
theorem writes2z (hk : t.k = 2) (h : WrB w base g f r lim s) (ht : TOK w t) (h0 : t.cs.length = 0) :
    Calls Try.prog 57 #[.pointer (some ⟨g, 0, none⟩), .agg (TV t)] w (WrPost w base g f r lim (putW lim s [numI t.cs.length, some t.cs])) := by
  obtain ⟨b1, k1, t1⟩ := th_cells t w ht
  have HH := hid (h.keep b1); have B1 := hid b1
  have HC := hid (fun h1 => wBytes_calls base g f r lim s (w.alloc (.cells (TV t) 38)) 0 t.cs.length t.c t.A t.cs t1.2.2.2.1 h1 ⟨rfl, fun hp => absurd hp (by omega)⟩ (Nat.zero_le _) (fun b off e hb => absurd hb (by omega)))
  have c0 := k1.cell 0 (TV_head (t := t) (i := 0) rfl)
  have c2 := k1.cell 2 (TV_head (t := t) (i := 2) rfl)
  rw [hk] at c0
  clear h ht k1 b1 t1 h0
  generalize putW lim s [numI t.cs.length, some t.cs] = s' at HC ⊢
  generalize TV t = cs at c0 c2 B1 HH HC ⊢
  generalize t.cs.length = m at c2 HC
  go_enter Try.func57, Try.ntmps57
  go_wp2_with fail
  refine (HC.out HH.out).mono ?_
  intro e w' hp
  have HK := hid (WrPost.fresh B1.out hp)
  obtain rfl := hp.ret
  clear hp c0 c2
  go_wp2_with fail
  go_ret
  exact HK.out
theorem writes_all (he : s.e = 0) (h : WrB w base g f r lim s) (ht : TOK w t) (hA : 0 < t.cs.length → ∀ b off, t.A = some ⟨b, off, none⟩ → r ≠ some b) (hV : 0 < t.zs.length → ∀ b off, t.A2 = some ⟨b, off, none⟩ → r ≠ some b) :
    Calls Try.prog 57 #[.pointer (some ⟨g, 0, none⟩), .agg (TV t)] w (WrPost w base g f r lim (putW lim s (thItems t))) := by
  by_cases h0 : t.cs.length = 0
  · by_cases h2 : t.k = 2
    · rw [show thItems t = [numI t.cs.length, some t.cs] from by unfold thItems; rw [if_neg (by omega), if_pos (.inr h2)]]
      exact writes2z base g f r lim s t w h2 h ht h0
    · by_cases hb : t.k = 0 ∨ t.k = 1 ∨ t.k = 3 ∨ t.k = 4 ∨ t.k = 5 ∨ t.k = 6
      · rcases hb with k | k | k | k | k | k
        · rw [show thItems t = [numI t.n] from if_pos k]; exact writes0 base g f r lim s t w k h ht
        · rw [show thItems t = [numI t.cs.length, some t.cs] from by unfold thItems; rw [if_neg (by omega), if_pos (.inl k)]]; exact writes1 base g f r lim s t w k h ht
        · rw [show thItems t = [some t.id] from by unfold thItems; rw [if_neg (by omega), if_neg (by omega), if_pos k]]; exact writes3 base g f r lim s t w k h ht
        · rw [show thItems t = [numI t.x, numI t.y] from by unfold thItems; rw [if_neg (by omega), if_neg (by omega), if_neg (by omega), if_pos k]]; exact writes4 base g f r lim s t w k h ht
        · rw [show thItems t = numI t.zs.length :: t.zs.map numI from by unfold thItems; rw [if_neg (by omega), if_neg (by omega), if_neg (by omega), if_neg (by omega), if_pos k]]; exact writes5 base g f r lim s t w k h ht hV
        · rw [show thItems t = [numI (if t.b then 1 else 0)] from by unfold thItems; rw [if_neg (by omega), if_neg (by omega), if_neg (by omega), if_neg (by omega), if_neg (by omega), if_pos k]]; exact writes6 base g f r lim s t w k h ht
      · rw [show thItems t = [] from by unfold thItems; rw [if_neg (by omega), if_neg (by omega), if_neg (by omega), if_neg (by omega), if_neg (by omega), if_neg (by omega)]]
        exact writesN base g f r lim s t w (by omega) he h ht
  · exact writes_calls base g f r lim s t w he h ht (fun b off e _ => hA (by omega) b off e) hV
end
theorem reads_all (base g f : Nat) (r : Option Nat) (bs : List UInt8) (s : RS) (t : Th) (w : World) (hl : bs.length ≤ 549755813888) (h : RdB w base g f r bs s) (ht : TOK w t) (hf : TFit t) (hA : 0 < t.cs.length → ∀ b off, t.A = some ⟨b, off, none⟩ → b ∉ [g, f]) (hV : 0 < t.zs.length → ∀ b off, t.A2 = some ⟨b, off, none⟩ → b ∉ [g, f]) :
    Calls Try.prog 58 #[.pointer (some ⟨g, 0, none⟩), .agg (TV t)] w (RtPost w base g f r bs t s) := by
  obtain ⟨B, hsb, hAB⟩ : ∃ B, SB w B t.A t.cs.length t.cs ∧ ∀ b off, t.A = some ⟨b, off, none⟩ → b < B → b ∉ [g, f] := by
    by_cases h0 : t.cs.length = 0
    · exact ⟨0, ⟨rfl, fun hp => absurd hp (by omega)⟩, fun b off e hb => absurd hb (by omega)⟩
    · exact ⟨_, ht.2.1, fun b off e _ => hA (by omega) b off e⟩
  by_cases k0 : t.k = 0
  · exact reads0 base g f r bs s t w k0 h ht
  by_cases k1 : t.k = 1
  · exact reads1 base g f r bs s t w k1 h ht B hsb hAB
  by_cases k2 : t.k = 2
  · exact reads2 base g f r bs s t w k2 hl h ht B hsb hAB
  by_cases k3 : t.k = 3
  · exact reads3 base g f r bs s t w k3 h ht
  by_cases k4 : t.k = 4
  · exact reads4 base g f r bs s t w k4 h ht
  by_cases k5 : t.k = 5
  · refine reads5 base g f r bs s t w k5 h ht hV ?_
    have h1 := vecLoop_len bs (numS bs (t.zs.length : Int) 4 s).1 [] (numS bs (t.zs.length : Int) 4 s).2
    have h2 := numS_le bs (t.zs.length : Int) 4 s (by omega)
    have h3 := hf.zs
    have h4 : (vecS bs (t.zs.length : Int) s).1.length ≤ [].length + (numS bs (t.zs.length : Int) 4 s).1 := h1
    simp only [List.length_nil] at h4
    omega
  by_cases k6 : t.k = 6
  · exact reads6 base g f r bs s t w k6 h ht
  · exact readsN base g f r bs s t w (by omega) h ht
end Go.Proofs.Ytcpkjpeimnaimaa
