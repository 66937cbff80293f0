/- What is read of bytes whose last one is missing. -/
import Derived.Test.YtcpkjpeimnaimaaWrBackM
namespace Go.Proofs.Ytcpkjpeimnaimaa
open Go.RowKit

theorem rd_bad (bs : List UInt8) (t : Th) (e p : Nat) (he : e ≠ 0) : rdS bs t (.bad e p) = .bad e p := by
  unfold rdS
  split
  · rfl
  split
  · rfl
  split
  · rfl
  split
  · rfl
  split
  · exact vec_bad _ _ _ _ _ he
  split
  · rfl
  · rfl
theorem len_cut {bs q : List UInt8} {a j : Nat} (h : bs.drop a = q.take j) (hj : j ≤ q.length) : bs.length - a = j := by
  rw [← List.length_drop, h, List.length_take]; omega
set_option maxHeartbeats 1000000 in
theorem th_cut {bs : List UInt8} {t : Th} {a j : Nat} (hf : TFit t) (hn : anyNeg (thItems t) = false) (hj : j < (thB t).length) (h : bs.drop a = (thB t).take j) : ∃ p, rdS bs t (.ok a) = .bad 6 p := by
  unfold thB at h hj
  unfold rdS
  by_cases k0 : t.k = 0
  · have e : thItems t = [numI t.n] := if_pos k0
    rw [e] at h hn hj
    have hp := numI_pos hn
    rw [flat_num hp, flat_nil, List.append_nil] at h hj
    have hr := num_cut (n := t.n.toNat) h (by have := hf.n; unfold lt63 at this; omega) (by rwa [show (encI t.n).length = encSize t.n.toNat from enc_length _] at hj) maxI 0
    rw [if_pos k0, hr]
    exact ⟨a, rfl⟩
  rw [if_neg k0]
  by_cases k1 : t.k = 1 ∨ t.k = 2
  · have e : thItems t = [numI t.cs.length, some t.cs] := by unfold thItems; rw [if_neg k0, if_pos k1]
    rw [e] at h hj
    rw [flat_num (by omega), flat_some, flat_nil, List.append_nil] at h hj
    have he : encI (t.cs.length : Int) = enc t.cs.length := by simp [encI]
    have hl : (encI (t.cs.length : Int)).length = encSize t.cs.length := by rw [he]; exact enc_length _
    have hcs := hf.cs
    rw [if_pos k1]
    by_cases hc : j < encSize t.cs.length
    · rw [List.take_append_of_le_length (by omega), he] at h
      have hr := num_cut h (by omega) hc (t.cs.length : Int) 4
      refine ⟨a, ?_⟩
      show (takeS bs (numS bs (t.cs.length : Int) 4 (.ok a)).1 a (numS bs (t.cs.length : Int) 4 (.ok a)).2).2 = _
      rw [hr]; rfl
    · have hlen := len_cut h (by omega)
      rw [List.take_append, List.take_of_length_le (by omega), he] at h
      have hr := num_read h (by omega) 4 (most := (t.cs.length : Int)) (Int.le_refl _)
      rw [List.length_append] at hj
      refine ⟨a, ?_⟩
      show (takeS bs (numS bs (t.cs.length : Int) 4 (.ok a)).1 a (numS bs (t.cs.length : Int) 4 (.ok a)).2).2 = _
      rw [hr, take_cut a (by omega)]
  rw [if_neg k1]
  by_cases k3 : t.k = 3
  · have e : thItems t = [some t.id] := by unfold thItems; rw [if_neg k0, if_neg k1, if_pos k3]
    rw [e] at h hj
    rw [flat_some, flat_nil, List.append_nil] at h hj
    have hlen := len_cut h (by omega)
    have h32 := hf.id
    rw [if_pos k3]
    refine ⟨a, ?_⟩
    show (takeS bs 32 a (.ok a)).2 = _
    rw [take_cut a (by omega)]
  rw [if_neg k3]
  by_cases k4 : t.k = 4
  · have e : thItems t = [numI t.x, numI t.y] := by unfold thItems; rw [if_neg k0, if_neg k1, if_neg k3, if_pos k4]
    rw [e] at h hn hj
    have hp := neg_map (zs := [t.x, t.y]) hn
    have hx := hp t.x (by simp); have hy := hp t.y (by simp)
    rw [flat_num hx, flat_num hy, flat_nil, List.append_nil] at h hj
    have b1 := hf.x; have b2 := hf.y
    unfold lt63 at b1 b2
    have l1 : (encI t.x).length = encSize t.x.toNat := enc_length _
    have l2 : (encI t.y).length = encSize t.y.toNat := enc_length _
    rw [List.length_append] at hj
    rw [if_pos k4]
    show ∃ p, (numS bs maxI 0 (numS bs maxI 0 (.ok a)).2).2 = .bad 6 p
    by_cases hc : j < encSize t.x.toNat
    · rw [List.take_append_of_le_length (by omega)] at h
      have hr := num_cut (n := t.x.toNat) h (by omega) hc maxI 0
      rw [hr]
      exact ⟨a, rfl⟩
    · rw [List.take_append, List.take_of_length_le (by omega)] at h
      have hr := num_read (n := t.x.toNat) h (by omega) 0 (most := maxI) (by simp only [maxI]; omega)
      have hd := drop_more h
      rw [l1] at hd
      have hr2 := num_cut (n := t.y.toNat) hd (by omega) (by omega) maxI 0
      rw [hr]
      simp only
      rw [hr2]
      exact ⟨_, rfl⟩
  rw [if_neg k4]
  by_cases k5 : t.k = 5
  · have e : thItems t = numI t.zs.length :: t.zs.map numI := by unfold thItems; rw [if_neg k0, if_neg k1, if_neg k3, if_neg k4, if_pos k5]
    rw [e] at h hn hj
    rw [anyNeg_cons] at hn
    simp only [Bool.or_eq_false_iff] at hn
    rw [vec_flat hn.2] at h hj
    have l1 := enc_length t.zs.length
    have hz := hf.zs
    rw [List.length_append] at hj
    rw [if_pos k5]
    by_cases hc : j < encSize t.zs.length
    · rw [List.take_append_of_le_length (by omega)] at h
      have hr := num_cut h (by omega) hc (t.zs.length : Int) 4
      refine ⟨a, ?_⟩
      unfold vecS
      rw [hr]; rfl
    · rw [List.take_append, List.take_of_length_le (by omega)] at h
      have hr := num_read h (by omega) 4 (most := (t.zs.length : Int)) (Int.le_refl _)
      have hd := drop_more h
      rw [l1] at hd
      obtain ⟨p, hp⟩ := vec_cut t.zs [] (fun z hz => ⟨neg_map hn.2 z hz, hf.z z hz⟩) (by omega) hd
      refine ⟨p, ?_⟩
      unfold vecS
      rw [hr]; exact hp
  rw [if_neg k5]
  by_cases k6 : t.k = 6
  · have e : thItems t = [numI (if t.b then 1 else 0)] := by unfold thItems; rw [if_neg k0, if_neg k1, if_neg k3, if_neg k4, if_neg k5, if_pos k6]
    rw [e] at h hj
    rw [flat_num (by split <;> omega), flat_nil, List.append_nil] at h hj
    have hr := num_cut (n := (if t.b then (1 : Int) else 0).toNat) h (by split <;> omega) (by rwa [show (encI (if t.b then 1 else 0)).length = encSize (if t.b then (1 : Int) else 0).toNat from enc_length _] at hj) 1 5
    rw [if_pos k6, hr]
    exact ⟨a, rfl⟩
  · have e : thItems t = [] := by unfold thItems; rw [if_neg k0, if_neg k1, if_neg k3, if_neg k4, if_neg k5, if_neg k6]
    rw [e] at hj
    simp [flat] at hj
/-- the bytes of things -/
def allTB (l : List Th) : List UInt8 := l.flatMap thB
theorem allTB_next (l : List Th) (k : Nat) (t : Th) (h : l[k]? = some t) : allTB (l.take (k + 1)) = allTB (l.take k) ++ thB t := by
  unfold allTB
  rw [List.take_add_one, h, List.flatMap_append]; simp
theorem allTB_split (l : List Th) (k : Nat) (t : Th) (h : l[k]? = some t) : allTB l = allTB (l.take k) ++ (thB t ++ allTB (l.drop (k + 1))) := by
  have hk := (List.getElem?_eq_some_iff.1 h).1
  have he := (List.getElem?_eq_some_iff.1 h).2
  unfold allTB
  conv => lhs; rw [← List.take_append_drop k l, List.drop_eq_getElem_cons hk, he]
  simp [List.flatMap_append]
/-- a thing of many, read -/
theorem all_read {l : List Th} {k : Nat} {t : Th} (h : l[k]? = some t) (hf : TFit t) (hn : anyNeg (thItems t) = false) : rdS (allTB l) t (.ok (allTB (l.take k)).length) = .ok (allTB (l.take (k + 1))).length ∧ rdV (allTB l) t (.ok (allTB (l.take k)).length) = true := by
  have := th_read (bs := allTB l) (a := (allTB (l.take k)).length) (rest := allTB (l.drop (k + 1))) hf hn (by
    conv => lhs; rw [allTB_split l k t h]
    rw [List.drop_left])
  rw [allTB_next l k t h, List.length_append]
  exact this
/-- where a reader of all but the last byte is -/
def CutS (l : List Th) (k : Nat) (s : RS) : Prop :=
  ((allTB (l.take k)).length ≤ (allTB l).length - 1 ∧ s = .ok (allTB (l.take k)).length) ∨ ((allTB l).length - 1 < (allTB (l.take k)).length ∧ ∃ p, s = .bad 6 p)
theorem cut_next {l : List Th} {k : Nat} {t : Th} {s : RS} (h : l[k]? = some t) (hf : TFit t) (hn : anyNeg (thItems t) = false) (hs : CutS l k s) : CutS l (k + 1) (rdS ((allTB l).take ((allTB l).length - 1)) t s) := by
  have hx := allTB_next l k t h
  have hsp := allTB_split l k t h
  have hl1 : (allTB (l.take (k + 1))).length = (allTB (l.take k)).length + (thB t).length := by rw [hx, List.length_append]
  have hl2 : (allTB l).length = (allTB (l.take k)).length + ((thB t).length + (allTB (l.drop (k + 1))).length) := by rw [hsp, List.length_append, List.length_append]
  rcases hs with ⟨h1, rfl⟩ | ⟨h1, p, rfl⟩
  · have hd : ((allTB l).take ((allTB l).length - 1)).drop (allTB (l.take k)).length = (thB t ++ allTB (l.drop (k + 1))).take ((allTB l).length - 1 - (allTB (l.take k)).length) := by
      conv => lhs; arg 2; arg 2; rw [hsp]
      rw [List.drop_take, List.drop_left]
    by_cases hc : (allTB (l.take (k + 1))).length ≤ (allTB l).length - 1
    · left
      refine ⟨hc, ?_⟩
      have e : (thB t).take ((allTB l).length - 1 - (allTB (l.take k)).length) = thB t := List.take_of_length_le (by omega)
      rw [List.take_append, e] at hd
      rw [(th_read hf hn hd).1, hl1]
    · right
      refine ⟨by omega, ?_⟩
      rw [List.take_append_of_le_length (by omega)] at hd
      exact th_cut hf hn (by omega) hd
  · right
    exact ⟨by omega, p, rd_bad _ _ _ _ (by omega)⟩
theorem cut_end {l : List Th} {s : RS} (h0 : (allTB l).length ≠ 0) (hs : CutS l l.length s) : ∃ p, s = .bad 6 p := by
  rcases hs with ⟨h1, -⟩ | ⟨-, h⟩
  · rw [List.take_length] at h1; omega
  · exact h
end Go.Proofs.Ytcpkjpeimnaimaa
