/- What is written is read as it was: numbers, bytes, digests, dots, vectors, over lists. -/
import Derived.Test.YtcpkjpeimnaimaaWrOneM
import Derived.Test.YtcpkjpeimnaimaaWrOneK
namespace Go.Proofs.Ytcpkjpeimnaimaa
open Go.RowKit

theorem num_read {bs rest : List UInt8} {a n : Nat} (h : bs.drop a = enc n ++ rest) (hn : n < 9223372036854775808) {most : Int} (above : Nat) (hm : (n : Int) ≤ most) : numS bs most above (.ok a) = (n, .ok (a + encSize n)) := by
  have h0 : numS0 bs a = (n, .ok (a + encSize n)) := by
    unfold numS0
    rw [h, dec_enc n hn]; simp
  show limS a most above (numS0 bs a) = _
  rw [h0]
  exact if_neg (by omega)
theorem dec_cut (n j : Nat) (hn : n < 9223372036854775808) (hj : j < encSize n) : decN ((enc n).take j) = (0, 0, 6) := by
  unfold enc encSize at *
  by_cases h : n < 192
  · rw [if_pos h] at hj ⊢
    obtain rfl : j = 0 := by omega
    rfl
  · rw [if_neg h] at hj ⊢
    obtain ⟨k1, k2, -, -⟩ := kOf_bounds (n := n) (by omega) (by omega)
    cases j with
    | zero => rfl
    | succ j =>
      have e : (UInt8.ofNat (191 + kOf n)).toNat = 191 + kOf n := ofNat_lt (by omega)
      rw [List.take_succ_cons]
      simp only [decN, e]
      rw [if_neg (by omega), if_neg (by omega), if_pos (by rw [List.length_take, beB_length]; omega)]
theorem num_cut {bs : List UInt8} {a n j : Nat} (h : bs.drop a = (enc n).take j) (hn : n < 9223372036854775808) (hj : j < encSize n) (most : Int) (above : Nat) : numS bs most above (.ok a) = (0, .bad 6 a) := by
  have h0 : numS0 bs a = (0, .bad 6 a) := by
    unfold numS0
    rw [h, dec_cut n j hn hj]; rfl
  show limS a most above (numS0 bs a) = _
  rw [h0]; rfl
theorem take_read {bs cs rest : List UInt8} {a : Nat} (begin : Nat) (h : bs.drop a = cs ++ rest) : takeS bs cs.length begin (.ok a) = (cs, .ok (a + cs.length)) := by
  have hl : bs.length - a = cs.length + rest.length := by rw [← List.length_drop, h, List.length_append]
  show (if bs.length - a < cs.length then _ else _) = _
  rw [if_neg (by omega), h, List.take_append_of_le_length (Nat.le_refl _), List.take_length]
theorem take_cut {bs : List UInt8} {a n : Nat} (begin : Nat) (h : bs.length - a < n) : takeS bs n begin (.ok a) = ([], .bad 6 begin) := if_pos h
theorem drop_more {bs x y : List UInt8} {a : Nat} (h : bs.drop a = x ++ y) : bs.drop (a + x.length) = y := by
  rw [← List.drop_drop, h, List.drop_left]
theorem vec_read {bs : List UInt8} : ∀ (zs : List Int) (acc : List Int) {rest : List UInt8} {a : Nat}, (∀ z ∈ zs, 0 ≤ z ∧ z < 9223372036854775808) → bs.drop a = zs.flatMap encI ++ rest → vecLoop bs zs.length acc (.ok a) = (acc ++ zs, .ok (a + (zs.flatMap encI).length))
  | [], acc, rest, a, _, _ => by simp [vecLoop]
  | z :: zs, acc, rest, a, hz, h => by
    have hz0 := hz z (by simp)
    rw [List.flatMap_cons, List.append_assoc] at h
    have hr := num_read h (n := z.toNat) (by omega) 0 (most := maxI) (by simp only [maxI]; omega)
    show (if (numS bs maxI 0 (.ok a)).2.err = 0 then _ else _) = _
    rw [hr]
    have hd := drop_more h
    rw [show (encI z).length = encSize z.toNat from enc_length _] at hd
    have hv := vec_read zs (acc ++ [((z.toNat : Nat) : Int)]) (fun y hy => hz y (by simp [hy])) hd
    refine (show _ = vecLoop bs zs.length (acc ++ [((z.toNat : Nat) : Int)]) (.ok (a + encSize z.toNat)) from if_pos rfl).trans ?_
    rw [hv]
    simp only [List.flatMap_cons, List.length_append, List.append_assoc, List.singleton_append, Prod.mk.injEq]
    refine ⟨by rw [show ((z.toNat : Nat) : Int) = z by omega], ?_⟩
    rw [show (encI z).length = encSize z.toNat from enc_length _, Nat.add_assoc]
theorem vec_bad (bs : List UInt8) (n : Nat) (acc : List Int) (e p : Nat) (he : e ≠ 0) : (vecLoop bs n acc (.bad e p)).2 = .bad e p := by
  cases n with
  | zero => rfl
  | succ n =>
    show (if (numS bs maxI 0 (.bad e p)).2.err = 0 then _ else _ : List Int × RS).2 = _
    rw [if_neg (by simpa [numS, RS.err] using he)]
    rfl
theorem vec_cut {bs : List UInt8} : ∀ (zs : List Int) (acc : List Int) {a j : Nat}, (∀ z ∈ zs, 0 ≤ z ∧ z < 9223372036854775808) → j < (zs.flatMap encI).length → bs.drop a = (zs.flatMap encI).take j → ∃ p, (vecLoop bs zs.length acc (.ok a)).2 = .bad 6 p
  | [], _, _, _, _, hj, _ => by simp at hj
  | z :: zs, acc, a, j, hz, hj, h => by
    have hz0 := hz z (by simp)
    have he : (encI z).length = encSize z.toNat := enc_length _
    rw [List.flatMap_cons] at h hj
    rw [List.length_append] at hj
    by_cases hc : j < encSize z.toNat
    · rw [List.take_append_of_le_length (by omega)] at h
      have hr := num_cut h (n := z.toNat) (by omega) hc maxI 0
      refine ⟨a, ?_⟩
      show (if (numS bs maxI 0 (.ok a)).2.err = 0 then _ else _ : List Int × RS).2 = _
      rw [hr]
      rfl
    · rw [List.take_append, List.take_of_length_le (by omega)] at h
      have hr := num_read h (n := z.toNat) (by omega) 0 (most := maxI) (by simp only [maxI]; omega)
      have hd := drop_more h
      rw [he] at hd
      obtain ⟨p, hp⟩ := vec_cut zs (acc ++ [((z.toNat : Nat) : Int)]) (a := a + encSize z.toNat) (j := j - encSize z.toNat) (fun y hy => hz y (by simp [hy])) (by omega) (by rw [hd])
      refine ⟨p, ?_⟩
      show (if (numS bs maxI 0 (.ok a)).2.err = 0 then _ else _ : List Int × RS).2 = _
      rw [hr]
      exact hp
/-- what is read, beside a thing: where the reader is then -/
def rdS (bs : List UInt8) (t : Th) (s : RS) : RS :=
  if t.k = 0 then (numS bs maxI 0 s).2 else if t.k = 1 ∨ t.k = 2 then (sizedS bs (t.cs.length : Int) s).2 else if t.k = 3 then (idS bs s).2 else if t.k = 4 then (dotS bs s).2 else
  if t.k = 5 then (vecS bs (t.zs.length : Int) s).2 else if t.k = 6 then (numS bs 1 5 s).2 else s
/-- and whether it is the thing -/
def rdV (bs : List UInt8) (t : Th) (s : RS) : Bool :=
  if t.k = 0 then ((numS bs maxI 0 s).1 : Int) == t.n else if t.k = 1 ∨ t.k = 2 then (sizedS bs (t.cs.length : Int) s).1 == t.cs else if t.k = 3 then (idS bs s).1 == t.id else
  if t.k = 4 then ((dotS bs s).1.1 : Int) == t.x && ((dotS bs s).1.2 : Int) == t.y else
  if t.k = 5 then (vecS bs (t.zs.length : Int) s).1 == t.zs else if t.k = 6 then (((numS bs 1 5 s).1 : Int) == 1) == t.b else true
def thB (t : Th) : List UInt8 := flat (thItems t)
/-- sizes and bounds of a thing -/
structure TFit (t : Th) : Prop where
  id : t.id.length = 32
  cs : t.cs.length ≤ 60
  zs : t.zs.length ≤ 60
  n : lt63 t.n
  x : lt63 t.x
  y : lt63 t.y
  z : ∀ z ∈ t.zs, lt63 z
theorem numI_pos {z : Int} (h : anyNeg [numI z] = false) : 0 ≤ z := by
  unfold numI at h
  by_cases hz : z < 0
  · rw [if_pos hz] at h; simp [anyNeg] at h
  · omega
theorem anyNeg_cons (i : Item) (l : List Item) : anyNeg (i :: l) = (anyNeg [i] || anyNeg l) := by simp [anyNeg]
theorem neg_map {zs : List Int} (h : anyNeg (zs.map numI) = false) : ∀ z ∈ zs, 0 ≤ z := by
  induction zs with
  | nil => simp
  | cons z zs ih =>
    rw [List.map_cons, anyNeg_cons] at h
    simp only [Bool.or_eq_false_iff] at h
    intro y hy
    rcases List.mem_cons.1 hy with rfl | hy
    · exact numI_pos h.1
    · exact ih h.2 y hy
theorem flat_num {z : Int} (h : 0 ≤ z) (l : List Item) : flat (numI z :: l) = encI z ++ flat l := by
  unfold numI
  rw [if_neg (by omega)]
  rfl
theorem flat_some (b : List UInt8) (l : List Item) : flat (some b :: l) = b ++ flat l := rfl
theorem flat_nil : flat [] = [] := rfl
theorem vec_flat {zs : List Int} (h : anyNeg (zs.map numI) = false) : flat (numI zs.length :: zs.map numI) = enc zs.length ++ zs.flatMap encI := by
  rw [flat_num (by omega), (flat_nums zs (neg_map h)).1]
  rfl
set_option maxHeartbeats 1000000 in
/-- what was written is read -/
theorem th_read {bs rest : List UInt8} {t : Th} {a : Nat} (hf : TFit t) (hn : anyNeg (thItems t) = false) (h : bs.drop a = thB t ++ rest) : rdS bs t (.ok a) = .ok (a + (thB t).length) ∧ rdV bs t (.ok a) = true := by
  unfold thB at h ⊢
  unfold rdS rdV
  by_cases k0 : t.k = 0
  · have e : thItems t = [numI t.n] := if_pos k0
    rw [e] at h hn ⊢
    have hp := numI_pos hn
    rw [flat_num hp, flat_nil, List.append_nil] at h ⊢
    have hr := num_read (n := t.n.toNat) h (by have := hf.n; unfold lt63 at this; omega) 0 (most := maxI) (by have := hf.n; unfold lt63 at this; simp only [maxI]; omega)
    rw [if_pos k0, if_pos k0, hr]
    exact ⟨by rw [show (encI t.n).length = encSize t.n.toNat from enc_length _], by simp; omega⟩
  rw [if_neg k0, if_neg k0]
  by_cases k1 : t.k = 1 ∨ t.k = 2
  · have e : thItems t = [numI t.cs.length, some t.cs] := by unfold thItems; rw [if_neg k0, if_pos k1]
    rw [e] at h ⊢
    rw [flat_num (by omega), flat_some, flat_nil, List.append_nil] at h ⊢
    rw [List.append_assoc] at h
    have hr := num_read (n := t.cs.length) (by simpa [encI] using h) (by have := hf.cs; omega) 4 (most := (t.cs.length : Int)) (Int.le_refl _)
    have hd := drop_more h
    rw [show (encI (t.cs.length : Int)).length = encSize t.cs.length from by rw [show encI (t.cs.length : Int) = enc t.cs.length from by simp [encI]]; exact enc_length _] at hd
    have ht := take_read a hd
    have hs : sizedS bs (t.cs.length : Int) (.ok a) = (t.cs, .ok (a + encSize t.cs.length + t.cs.length)) := by
      show takeS bs (numS bs (t.cs.length : Int) 4 (.ok a)).1 a (numS bs (t.cs.length : Int) 4 (.ok a)).2 = _
      rw [hr]; exact ht
    rw [if_pos k1, if_pos k1, hs]
    refine ⟨?_, by simp⟩
    rw [List.length_append, show (encI (t.cs.length : Int)).length = encSize t.cs.length from by rw [show encI (t.cs.length : Int) = enc t.cs.length from by simp [encI]]; exact enc_length _, Nat.add_assoc]
  rw [if_neg k1, if_neg k1]
  by_cases k3 : t.k = 3
  · have e : thItems t = [some t.id] := by unfold thItems; rw [if_neg k0, if_neg k1, if_pos k3]
    rw [e] at h ⊢
    rw [flat_some, flat_nil, List.append_nil] at h ⊢
    have ht := take_read a h
    rw [hf.id] at ht
    rw [if_pos k3, if_pos k3]
    show (takeS bs 32 a (.ok a)).2 = _ ∧ (fill32 (takeS bs 32 a (.ok a)).1 == t.id) = true
    rw [ht]
    exact ⟨by rw [hf.id], by simp [fill32, hf.id]⟩
  rw [if_neg k3, if_neg k3]
  by_cases k4 : t.k = 4
  · have e : thItems t = [numI t.x, numI t.y] := by unfold thItems; rw [if_neg k0, if_neg k1, if_neg k3, if_pos k4]
    rw [e] at h hn ⊢
    have hp := neg_map (zs := [t.x, t.y]) hn
    have hx := hp t.x (by simp); have hy := hp t.y (by simp)
    rw [flat_num hx, flat_num hy, flat_nil, List.append_nil] at h ⊢
    rw [List.append_assoc] at h
    have b1 := hf.x; have b2 := hf.y
    unfold lt63 at b1 b2
    have hr := num_read (n := t.x.toNat) h (by omega) 0 (most := maxI) (by simp only [maxI]; omega)
    have hd := drop_more h
    rw [show (encI t.x).length = encSize t.x.toNat from enc_length _] at hd
    have hr2 := num_read (n := t.y.toNat) hd (by omega) 0 (most := maxI) (by simp only [maxI]; omega)
    have hs : dotS bs (.ok a) = ((t.x.toNat, t.y.toNat), .ok (a + encSize t.x.toNat + encSize t.y.toNat)) := by
      unfold dotS
      rw [hr]
      simp only
      rw [hr2]
      rfl
    rw [if_pos k4, if_pos k4, hs]
    refine ⟨?_, ?_⟩
    · rw [List.length_append, show (encI t.x).length = encSize t.x.toNat from enc_length _, show (encI t.y).length = encSize t.y.toNat from enc_length _, Nat.add_assoc]
    · simp; omega
  rw [if_neg k4, if_neg k4]
  by_cases k5 : t.k = 5
  · have e : thItems t = numI t.zs.length :: t.zs.map numI := by unfold thItems; rw [if_neg k0, if_neg k1, if_neg k3, if_neg k4, if_pos k5]
    rw [e] at h hn ⊢
    rw [anyNeg_cons] at hn
    simp only [Bool.or_eq_false_iff] at hn
    rw [vec_flat hn.2] at h ⊢
    rw [List.append_assoc] at h
    have hr := num_read (n := t.zs.length) h (by have := hf.zs; omega) 4 (most := (t.zs.length : Int)) (Int.le_refl _)
    have hd := drop_more h
    rw [enc_length] at hd
    have hv := vec_read t.zs [] (fun z hz => ⟨neg_map hn.2 z hz, hf.z z hz⟩) hd
    have hs : vecS bs (t.zs.length : Int) (.ok a) = (t.zs, .ok (a + encSize t.zs.length + (t.zs.flatMap encI).length)) := by
      unfold vecS
      rw [hr]
      simpa using hv
    rw [if_pos k5, if_pos k5, hs]
    refine ⟨?_, by simp⟩
    rw [List.length_append, enc_length, Nat.add_assoc]
  rw [if_neg k5, if_neg k5]
  by_cases k6 : t.k = 6
  · have e : thItems t = [numI (if t.b then 1 else 0)] := by unfold thItems; rw [if_neg k0, if_neg k1, if_neg k3, if_neg k4, if_neg k5, if_pos k6]
    rw [e] at h ⊢
    rw [flat_num (by split <;> omega), flat_nil, List.append_nil] at h ⊢
    have hr := num_read (n := (if t.b then (1 : Int) else 0).toNat) h (by split <;> omega) 5 (most := 1) (by split <;> simp)
    rw [if_pos k6, if_pos k6, hr]
    refine ⟨by rw [show (encI (if t.b then 1 else 0)).length = encSize (if t.b then (1 : Int) else 0).toNat from enc_length _], ?_⟩
    cases t.b <;> rfl
  · have e : thItems t = [] := by unfold thItems; rw [if_neg k0, if_neg k1, if_neg k3, if_neg k4, if_neg k5, if_neg k6]
    rw [if_neg k6, if_neg k6, e]
    exact ⟨rfl, rfl⟩
end Go.Proofs.Ytcpkjpeimnaimaa
