/- Contracts: Join, Meet and Weight of the project. -/
import Derived.Test.YthjflgnoeenenaaVcFold
namespace Go.Proofs.Ythjflgnoeenenaa
open Go Go.RowKit Go.Shelf

def capN : Int := 4611686018427387904
def joinV (v1 v2 : List Int) : List Int := (List.range (max v1.length v2.length)).map fun i => max (nth v1 i) (nth v2 i)
def meetV (v1 v2 : List Int) : List Int := (List.range (max v1.length v2.length)).map fun i => min (nth v1 i) (nth v2 i)
def sumF (num : Nat → Int) (pre : List Nat) : Int := pre.foldl (fun s i => s + min (num i) (capN - s)) 0
def wgtV (v : List Int) : Int := sumF (nth v) (List.range v.length)
theorem joinV_length (a b : List Int) : (joinV a b).length = max a.length b.length := by simp [joinV]
theorem meetV_length (a b : List Int) : (meetV a b).length = max a.length b.length := by simp [meetV]
theorem sumF_snoc (num : Nat → Int) (pre : List Nat) (i : Nat) : sumF num (pre ++ [i]) = sumF num pre + min (num i) (capN - sumF num pre) := by unfold sumF; rw [List.foldl_append]; rfl
theorem sumF_bounds {num : Nat → Int} (h : ∀ i, 0 ≤ num i) (pre : List Nat) : 0 ≤ sumF num pre ∧ sumF num pre ≤ capN := by
  have key : ∀ (pre : List Nat) (s : Int), 0 ≤ s ∧ s ≤ capN → 0 ≤ pre.foldl (fun s i => s + min (num i) (capN - s)) s ∧ pre.foldl (fun s i => s + min (num i) (capN - s)) s ≤ capN := by
    intro pre
    induction pre with
    | nil => exact fun s h => h
    | cons i r ih =>
      intro s hs
      rw [List.foldl_cons]
      have := h i
      exact ih _ (by omega)
  exact key pre 0 (by unfold capN; omega)
set_option maxHeartbeats 1000000 in
theorem greater_calls (x y : Int) (w : World) : Calls Try.prog 76 #[.int .i64 x, .int .i64 y] w fun e w' => e = .returned (.int .i64 (max x y)) ∧ w = w' := by
  obtain ⟨z, hz⟩ : ∃ z, max x y = z := ⟨_, rfl⟩
  rw [hz]
  have HZ := hid (show (x < y → y = z) ∧ (¬ x < y → x = z) from by omega)
  clear hz
  go_enter Try.func76, Try.ntmps76
  go_wp2_with fail
  all_goals
    go_ret
    exact ⟨ret_int (by have := HZ.out; omega), rfl⟩
set_option maxHeartbeats 1000000 in
theorem put_calls (x : Int) (base n : Nat) (v : Value) (zs : List Int) (w : World) (h : OwnN w base v n zs) (hn : n ≤ 1000000) (hb : base ≤ w.heap.size) :
    Calls Try.prog 87 #[v, .int .i64 x] w fun e w' => ∃ v', e = .returned v' ∧ OwnN w' base v' (n + 1) (zs ++ [x]) ∧ w.heap.size ≤ w'.heap.size ∧ Below base w w' ∧ (∀ b, b < w.heap.size → v.ownBlock ≠ some b → w'.heap[b]? = w.heap[b]?) ∧ (v'.ownBlock = v.ownBlock ∨ ∀ b, v'.ownBlock = some b → w.heap.size ≤ b) := by
  obtain ⟨A, c, rfl, hc, _, _⟩ := h.ni
  have hb1 := below_new w (.cells #[.int .i64 x] 3)
  have hs1 := size_new w (.cells #[.int .i64 x] 3)
  have HO := hid (h.keep hb1); have HL := hid h.lt
  have HI := hid (show NI (w.alloc (.cells #[.int .i64 x] 3)) (some ⟨w.heap.size, 0, none⟩) 1 [x] from ⟨rfl, fun _ => ⟨_, _, rfl, fun j z hj => by
    have hk := Blk.new w 3 #[.int .i64 x]
    match j, hj with
    | 0, hj => cases hj; exact hk.cell 0 rfl
    | j + 1, hj => simp at hj⟩⟩)
  have HB1 := hid hb1; have HS1 := hid hs1
  clear h hb1 hs1
  go_enter Try.func87, Try.ntmps87
  go_wp2_with (refine wpList_append_ints _ rfl _ _ rfl base _ n zs rfl HO.out _ 1 1 [x] rfl HI.out (by omega) (by simp; omega) ?_; intro v' w' ho hg hv; refine Held.go ?_)
  have hsz := HS1.out
  have HE := hid (show OwnN w' base v' (n + 1) (zs ++ [x]) ∧ w.heap.size ≤ w'.heap.size ∧ Below base w w' ∧ (∀ b, b < w.heap.size → (Value.slice A n c).ownBlock ≠ some b → w'.heap[b]? = w.heap[b]?) ∧ (v'.ownBlock = (Value.slice A n c).ownBlock ∨ ∀ b, v'.ownBlock = some b → w.heap.size ≤ b) from by
    refine ⟨ho, by have := hg.size; omega, (HB1.out.mono hb).trans (below_of_grown hg (by omega) (fun g e => (HL.out g e).1)), fun b hb1 hne => ?_, ?_⟩
    · exact (hg.block b (by omega) (fun e => hne e.symm)).trans (HB1.out.block b hb1)
    · rcases hv with e | e
      · exact .inl e
      · exact .inr fun b hb2 => by
          rw [e] at hb2
          cases hb2
          omega)
  clear ho hg hv HO HI HB1 HS1
  unfold Held
  go_wp2_with fail
  go_ret
  exact ⟨v', rfl, HE.out⟩
set_option maxHeartbeats 1000000 in
theorem add_calls (s x : Int) (w : World) (hs : 0 ≤ s ∧ s ≤ capN) (hx : 0 ≤ x) : Calls Try.prog 77 #[.int .i64 s, .int .i64 x] w fun e w' => e = .returned (.int .i64 (s + min x (capN - s))) ∧ w = w' := by
  unfold capN at hs ⊢
  obtain ⟨z, hz⟩ : ∃ z, s + min x (4611686018427387904 - s) = z := ⟨_, rfl⟩
  rw [hz]
  have w1 : IntKind.i64.wrap (4611686018427387904 - s) = 4611686018427387904 - s := IntWalk.i64_in _ (by omega)
  by_cases hc : x ≤ 4611686018427387904 - s
  · have w2 : IntKind.i64.wrap (s + x) = s + x := IntWalk.i64_in _ (by omega)
    have HZ := hid (show s + x = z from by omega)
    clear hz
    go_enter Try.func77, Try.ntmps77
    go_wp2_with fail
    go_ret
    exact ⟨ret_int HZ.out, rfl⟩
  · have w2 : IntKind.i64.wrap (s + (4611686018427387904 - s)) = s + (4611686018427387904 - s) := IntWalk.i64_in _ (by omega)
    have HZ := hid (show s + (4611686018427387904 - s) = z from by omega)
    clear hz
    go_enter Try.func77, Try.ntmps77
    go_wp2_with fail
    go_ret
    exact ⟨ret_int HZ.out, rfl⟩
/-- the list that a fold has put together -/
def VL (base : Nat) (num : Nat → Int) (pre : List Nat) (v : Value) (W : World) : Prop := OwnN W base v pre.length (pre.map num)
theorem VL.ok (base : Nat) (num : Nat → Int) (N : Nat) (hN : N ≤ 1000000) : FdV isSl base 87 (VL base num) num N where
  st _ _ _ _ h _ hb := h.block hb
  ob _ v W h b hb := by
    refine ⟨(h.lt b hb).1, ?_⟩
    rcases h.2 with ⟨rfl, _⟩ | ⟨g, cap, cur, rfl, _, hg, _⟩
    · cases hb
    · cases hb
      exact ⟨_, hg, rfl⟩
  form _ v W h := by
    obtain ⟨A, c, e, _⟩ := h.ni
    exact ⟨A, _, c, e⟩
  take pre i v W h hlt hb := by
    refine (put_calls (num i) base pre.length v (pre.map num) W h (by omega) hb).mono ?_
    rintro e W' ⟨v', rfl, h1, h2⟩
    refine ⟨v', rfl, ?_, h2⟩
    unfold VL
    rw [List.length_append, List.map_append]
    exact h1
/-- the sum that a fold has put together -/
def VS (num : Nat → Int) (pre : List Nat) (v : Value) (_ : World) : Prop := v = .int .i64 (sumF num pre)
theorem VS.ok (base : Nat) (num : Nat → Int) (N : Nat) (h0 : ∀ i, 0 ≤ num i) : FdV isNu base 77 (VS num) num N where
  st _ _ _ _ h _ _ := h
  ob _ v W h b hb := by
    unfold VS at h
    subst h
    cases hb
  form _ v W h := ⟨_, h⟩
  take pre i v W h _ _ := by
    unfold VS at h
    subst h
    refine (add_calls (sumF num pre) (num i) W (sumF_bounds h0 pre) (h0 i)).mono ?_
    rintro e W' ⟨rfl, rfl⟩
    refine ⟨_, rfl, ?_, Nat.le_refl _, Below.refl _ _, fun _ _ _ => rfl, .inl rfl⟩
    unfold VS
    rw [sumF_snoc]
set_option maxHeartbeats 1000000 in
theorem room_calls (n1 c1 n2 c2 : Nat) (A1 A2 : Option Addr) (w : World) (hn1 : n1 ≤ 1000000) (hn2 : n2 ≤ 1000000) :
    Calls Try.prog 86 #[.slice A1 n1 c1, .slice A2 n2 c2] w fun e w' => ∃ v, e = .returned v ∧ OwnN w' w.heap.size v 0 [] ∧ Below w.heap.size w w' := by
  by_cases hc : n1 < n2
  · go_enter Try.func86, Try.ntmps86
    go_wp2_with (refine wpList_make_ints _ rfl _ _ rfl _ n2 rfl rfl rfl (by omega) ?_; intro w' ho hb; refine Held.go ?_)
    have HE := hid (show OwnN w' w.heap.size (.slice (some ⟨w.heap.size, 0, none⟩) 0 n2) 0 [] ∧ Below w.heap.size w w' from ⟨ho, hb⟩)
    clear ho hb
    unfold Held
    go_wp2_with fail
    go_ret
    exact ⟨_, rfl, HE.out⟩
  · go_enter Try.func86, Try.ntmps86
    go_wp2_with (refine wpList_make_ints _ rfl _ _ rfl _ n1 rfl rfl rfl (by omega) ?_; intro w' ho hb; refine Held.go ?_)
    have HE := hid (show OwnN w' w.heap.size (.slice (some ⟨w.heap.size, 0, none⟩) 0 n1) 0 [] ∧ Below w.heap.size w w' from ⟨ho, hb⟩)
    clear ho hb
    unfold Held
    go_wp2_with fail
    go_ret
    exact ⟨_, rfl, HE.out⟩
set_option maxHeartbeats 1000000 in
theorem join_calls (n1 c1 n2 c2 : Nat) (A1 A2 : Option Addr) (v1 v2 : List Int) (w : World) (h1 : NI w A1 n1 v1) (h2 : NI w A2 n2 v2) (hn1 : n1 ≤ 1000000) (hn2 : n2 ≤ 1000000) :
    Calls Try.prog 65 #[.slice A1 n1 c1, .slice A2 n2 c2] w fun e w' => ∃ v, e = .returned v ∧ OwnN w' w.heap.size v (max n1 n2) (joinV v1 v2) ∧ Below w.heap.size w w' := by
  have HR := hid (room_calls n1 c1 n2 c2 A1 A2 w hn1 hn2)
  have HF := hid (fun (v : Value) (W : World) (hb : Below w.heap.size w W) (ho : OwnN W w.heap.size v 0 []) =>
    foldL_calls w.heap.size 76 87 (VL w.heap.size (fun i => max (nth v1 i) (nth v2 i))) max n1 c1 n2 c2 A1 A2 v1 v2 v W (h1.keep hb) (h2.keep hb) hn1 hn2 (VL.ok _ _ _ (by omega)) hb.size (fun b off e hn => ni_lt h1 e hn) (fun b off e hn => ni_lt h2 e hn) greater_calls (enters_of Try.func76 (by kernel_rfl) rfl) (enters_of Try.func87 (by kernel_rfl) rfl) ho (fun b hb2 => (ho.lt b hb2).2))
  have HE := hid (show ∀ v W, VL w.heap.size (fun i => max (nth v1 i) (nth v2 i)) (List.range (max n1 n2)) v W → OwnN W w.heap.size v (max n1 n2) (joinV v1 v2) from fun v W h => by
    unfold VL at h
    rw [List.length_range] at h
    unfold joinV
    rw [h1.1, h2.1]
    exact h)
  clear h1 h2
  go_enter Try.func65, Try.ntmps65
  go_wp2_with fail
  refine HR.out.mono ?_
  rintro e W1 ⟨v, rfl, ho, hb⟩
  have HC := hid (HF.out v W1 hb ho)
  have HB := hid hb
  clear ho hb HF
  go_wp2_with fail
  refine HC.out.mono ?_
  rintro e W2 ⟨v2', rfl, hv, hb2⟩
  have HX := hid (HE.out v2' W2 hv)
  have HB2 := hid (HB.out.trans hb2)
  clear hv hb2
  go_wp2_with fail
  go_ret
  exact ⟨v2', rfl, HX.out, HB2.out⟩
theorem nth_nil (i : Nat) : nth [] i = 0 := nth_far (Nat.zero_le _)
theorem max_nth (zs : List Int) (i : Nat) : max (nth zs i) (nth [] i) = nth zs i := by rw [nth_nil]; have := nth_nonneg zs i; omega
set_option maxHeartbeats 1000000 in
theorem weight_calls (n1 c1 : Nat) (A1 : Option Addr) (v1 : List Int) (w : World) (h1 : NI w A1 n1 v1) (hn1 : n1 ≤ 1000000) :
    Calls Try.prog 52 #[.slice A1 n1 c1] w fun e w' => e = .returned (.int .i64 (wgtV v1)) ∧ Below w.heap.size w w' := by
  have HF := hid (foldI_calls w.heap.size 76 77 (VS (fun i => max (nth v1 i) (nth [] i))) max n1 c1 0 0 A1 none v1 [] (.int .i64 0) w h1 (NI.nil _ _) hn1 (by omega) (VS.ok _ _ _ (fun i => by have := nth_nonneg v1 i; omega)) (Nat.le_refl _) (fun b off e hn => ni_lt h1 e hn) (fun b off e hn => by cases e) greater_calls (enters_of Try.func76 (by kernel_rfl) rfl) (enters_of Try.func77 (by kernel_rfl) rfl) rfl (fun b hb => by cases hb))
  have HE := hid (show sumF (fun i => max (nth v1 i) (nth [] i)) (List.range (max n1 0)) = wgtV v1 from by
    unfold wgtV
    rw [h1.1, Nat.max_eq_left (Nat.zero_le _)]
    congr 1
    funext i
    exact max_nth v1 i)
  clear h1
  go_enter Try.func52, Try.ntmps52
  go_wp2_with fail
  refine HF.out.mono ?_
  rintro e W1 ⟨v, rfl, hv, hb⟩
  unfold VS at hv
  rw [HE.out] at hv
  subst hv
  have HB := hid hb
  clear hb HE HF
  go_wp2_with fail
  go_ret
  exact ⟨rfl, HB.out⟩
end Go.Proofs.Ythjflgnoeenenaa
