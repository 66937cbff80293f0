/- Contracts of clouds: what is no number, no dot; inRange; noughts taken away. -/
import Derived.Test.YthjflgnoeenenaaOcCmp
namespace Go.Proofs.Ythjflgnoeenenaa
open Go Go.RowKit Cl

def noN (x : Int) : Bool := !(decide (0 ≤ x) && decide (x ≤ 1048576))
theorem ocNum_calls (x : Int) (w : World) : Calls Try.prog 62 #[.int .i64 x] w fun e w' => e = .returned (.bool (noN x)) ∧ w = w' := by
  obtain ⟨q, hq⟩ : ∃ q, noN x = q := ⟨_, rfl⟩
  rw [hq]
  have HQ := hid (show q = (decide (x < 0) || decide (1048576 < x)) from by rw [← hq]; unfold noN; rw [Bool.eq_iff_iff]; simp)
  clear hq
  by_cases h1 : x < 0
  · have HE := hid (show q = true from by rw [HQ.out]; simp [h1])
    clear HQ
    go_enter Try.func62, Try.ntmps62
    go_wp2_with fail
    go_ret
    exact ⟨ret_bool HE.out.symm, rfl⟩
  · have HE := hid (show q = decide (1048576 < x) from by rw [HQ.out]; simp [h1])
    clear HQ
    go_enter Try.func62, Try.ntmps62
    go_wp2_with fail
    go_ret
    exact ⟨ret_bool HE.out.symm, rfl⟩
set_option maxRecDepth 20000 in
set_option maxHeartbeats 1000000 in
theorem ocNoDot_calls (d : Dt) (w : World) : Calls Try.prog 64 #[dvv d] w fun e w' => e = .returned (.bool (!decide (dotted d))) ∧ Below w.heap.size w w' := by
  obtain ⟨R, N⟩ := d
  unfold dvv
  have HB := hid (below_new w (.cells #[.int .i64 R, .int .i64 N] 27))
  have hk := Blk.new w 27 #[.int .i64 R, .int .i64 N]
  have d0 := hk.cell 0 rfl
  have d1 := hk.cell 1 rfl
  obtain ⟨q, hq⟩ : ∃ q, (!decide (dotted (R, N))) = q := ⟨_, rfl⟩
  rw [hq]
  have HQ := hid (show q = (decide (R < 1) || (decide (16 < R) || (decide (N < 1) || decide (1048576 < N)))) from by
    rw [← hq]
    by_cases dd : dotted (R, N)
    · have d2 : 1 ≤ R ∧ R ≤ 16 ∧ 1 ≤ N ∧ N ≤ 1048576 := dd
      rw [decide_eq_true dd]
      symm
      simp only [Bool.not_true, Bool.or_eq_false_iff, decide_eq_false_iff_not]
      omega
    · have d2 : ¬ (1 ≤ R ∧ R ≤ 16 ∧ 1 ≤ N ∧ N ≤ 1048576) := dd
      rw [decide_eq_false dd]
      symm
      simp only [Bool.not_false, Bool.or_eq_true, decide_eq_true_eq]
      omega)
  clear hk hq
  by_cases h1 : R < 1
  · have HE := hid (show q = true from by rw [HQ.out]; simp [h1])
    clear HQ
    go_enter Try.func64, Try.ntmps64
    go_wp2_with fail
    go_ret
    exact ⟨ret_bool HE.out.symm, HB.out⟩
  · by_cases h2 : 16 < R
    · have HE := hid (show q = true from by rw [HQ.out]; simp [h2])
      clear HQ
      go_enter Try.func64, Try.ntmps64
      go_wp2_with fail
      go_ret
      exact ⟨ret_bool HE.out.symm, HB.out⟩
    · by_cases h3 : N < 1
      · have HE := hid (show q = true from by rw [HQ.out]; simp [h3])
        clear HQ
        go_enter Try.func64, Try.ntmps64
        go_wp2_with fail
        go_ret
        exact ⟨ret_bool HE.out.symm, HB.out⟩
      · have HE := hid (show q = decide (1048576 < N) from by rw [HQ.out]; simp [h1, h2, h3])
        clear HQ
        go_enter Try.func64, Try.ntmps64
        go_wp2_with fail
        go_ret
        exact ⟨ret_bool HE.out.symm, HB.out⟩
theorem any_take {α : Type} {l : List α} {p : α → Bool} {k : Nat} {x : α} (hx : l[k]? = some x) (h : (l.take k).any p = false) (hp : p x = false) : (l.take (k + 1)).any p = false := by
  rw [List.take_add_one, hx, List.any_append, h]; simp [hp]
theorem any_yes {α : Type} {l : List α} {p : α → Bool} {k : Nat} {x : α} (hx : l[k]? = some x) (hp : p x = true) : l.any p = true := List.any_eq_true.2 ⟨x, List.mem_of_getElem? hx, hp⟩
theorem any_no {α : Type} {l : List α} {p : α → Bool} {k : Nat} (hk : l.length = k) (h : (l.take k).any p = false) : l.any p = false := by
  rw [List.take_of_length_le (by omega)] at h; exact h
set_option maxHeartbeats 1000000 in
theorem ocIxN_calls (n c : Nat) (A : Option Addr) (v : List Int) (w : World) (h : NI w A n v) (hn : n ≤ 1000000) :
    Calls Try.prog 83 #[.slice A n c, .func (.func 62) #[] #[]] w fun e w' => ∃ r, e = .returned (.int .i64 r) ∧ decide (0 ≤ r) = v.any noN ∧ w = w' := by
  have HI := hid h; have HL := hid h.1
  have HEN := hid (enters_of Try.func62 (by kernel_rfl) rfl)
  clear h
  go_enter Try.func83, Try.ntmps83
  go_wp2_with fail
  go_loopw [8] (fun i wr => ∃ k : Nat, k ≤ n ∧ i = .int .i64 (k : Int) ∧ wr = w ∧ Hid ((v.take k).any noN = false)) (fun i _ => n - (intOf i).toNat)
  case atStart => exact ⟨0, Nat.zero_le _, rfl, rfl, hid (by simp)⟩
  case round =>
    obtain ⟨k, hk, rfl, rfl, HQ⟩ := hrel
    by_cases hlt : k < n
    · have hlt' : (k : Int) < (n : Int) := by omega
      obtain ⟨b1, o1, x, rfl, hx, hc⟩ := HI.out.at_ hlt
      have HX := hid hx
      have HC := hid (ocNum_calls x wr)
      obtain ⟨q, hq⟩ : ∃ q, noN x = q := ⟨_, rfl⟩
      rw [hq] at HC
      have HN := hid hq
      clear hx hq
      go_wp2_with fail
      refine HC.out.mono ?_
      rintro e W1 ⟨rfl, rfl⟩
      cases q with
      | true =>
        have HE := hid (any_yes HX.out HN.out)
        go_wp2_with fail
        go_ret
        exact ⟨_, rfl, by rw [HE.out]; simp, rfl⟩
      | false =>
        have HE := hid (any_take HX.out HQ.out HN.out)
        clear HQ HC
        go_wp2_with fail
        go_roundw
        case rel => exact ⟨k + 1, hlt, by go_num, trivial, HE⟩
        case measure => simp [intOf]; omega
    · obtain rfl : k = n := by omega
      have HE := hid (any_no HL.out HQ.out)
      clear HQ
      go_wp2_with fail
      go_ret
      exact ⟨_, rfl, by rw [HE.out]; rfl, rfl⟩
set_option maxHeartbeats 1000000 in
theorem ocIxD_calls (n c : Nat) (A : Option Addr) (ds : List Dt) (w : World) (h : ND w A n ds) (hn : n ≤ 1000000) :
    Calls Try.prog 84 #[.slice A n c, .func (.func 64) #[] #[]] w fun e w' => ∃ r, e = .returned (.int .i64 r) ∧ decide (0 ≤ r) = ds.any (fun d => !decide (dotted d)) ∧ Below w.heap.size w w' := by
  have HI := hid h; have HL := hid h.1
  have HEN := hid (enters_of Try.func64 (by kernel_rfl) rfl)
  clear h
  go_enter Try.func84, Try.ntmps84
  go_wp2_with fail
  go_loopw [8] (fun i wr => ∃ k : Nat, k ≤ n ∧ i = .int .i64 (k : Int) ∧ Hid (Below w.heap.size w wr) ∧ Hid ((ds.take k).any (fun d => !decide (dotted d)) = false)) (fun i _ => n - (intOf i).toNat)
  case atStart => exact ⟨0, Nat.zero_le _, rfl, hid (Below.refl _ _), hid (by simp)⟩
  case round =>
    obtain ⟨k, hk, rfl, HW, HQ⟩ := hrel
    by_cases hlt : k < n
    · have hlt' : (k : Int) < (n : Int) := by omega
      obtain ⟨b1, o1, x, rfl, hx, hc1, hc2⟩ := (HI.out.keep HW.out).at_ hlt
      have HX := hid hx
      have HC := hid (ocNoDot_calls x wr)
      obtain ⟨q, hq⟩ : ∃ q, (!decide (dotted x)) = q := ⟨_, rfl⟩
      rw [hq] at HC
      have HN := hid hq
      obtain ⟨R, N⟩ := x
      unfold dvv at HC
      clear hx hq
      go_wp2_with fail
      refine HC.out.mono ?_
      rintro e W1 ⟨rfl, hb⟩
      have HW1 := hid (HW.out.trans (hb.mono HW.out.size))
      clear hb HW
      cases q with
      | true =>
        have HE := hid (any_yes (p := fun d => !decide (dotted d)) HX.out HN.out)
        go_wp2_with fail
        go_ret
        exact ⟨_, rfl, by rw [HE.out]; simp, HW1.out⟩
      | false =>
        have HE := hid (any_take (p := fun d => !decide (dotted d)) HX.out HQ.out HN.out)
        clear HQ HC
        go_wp2_with fail
        go_roundw
        case rel => exact ⟨k + 1, hlt, by go_num, HW1, HE⟩
        case measure => simp [intOf]; omega
    · obtain rfl : k = n := by omega
      have HE := hid (any_no HL.out HQ.out)
      clear HQ
      go_wp2_with fail
      go_ret
      exact ⟨_, rfl, by rw [HE.out]; rfl, HW.out⟩
theorem ocHasN_calls (n c : Nat) (A : Option Addr) (v : List Int) (w : World) (h : NI w A n v) (hn : n ≤ 1000000) :
    Calls Try.prog 61 #[.slice A n c, .func (.func 62) #[] #[]] w fun e w' => e = .returned (.bool (v.any noN)) ∧ w = w' := by
  have HC := hid (ocIxN_calls n c A v w h hn)
  clear h
  go_enter Try.func61, Try.ntmps61
  go_wp2_with fail
  refine HC.out.mono ?_
  rintro e W1 ⟨r, rfl, hr, rfl⟩
  have HR := hid hr
  clear hr HC
  go_wp2_with fail
  go_ret
  exact ⟨ret_bool HR.out, rfl⟩
theorem ocHasD_calls (n c : Nat) (A : Option Addr) (ds : List Dt) (w : World) (h : ND w A n ds) (hn : n ≤ 1000000) :
    Calls Try.prog 63 #[.slice A n c, .func (.func 64) #[] #[]] w fun e w' => e = .returned (.bool (ds.any (fun d => !decide (dotted d)))) ∧ Below w.heap.size w w' := by
  have HC := hid (ocIxD_calls n c A ds w h hn)
  clear h
  go_enter Try.func63, Try.ntmps63
  go_wp2_with fail
  refine HC.out.mono ?_
  rintro e W1 ⟨r, rfl, hr, hb⟩
  have HR := hid hr; have HB := hid hb
  clear hr HC hb
  go_wp2_with fail
  go_ret
  exact ⟨ret_bool HR.out, HB.out⟩
theorem ranged_any (v : List Int) (ds : List Dt) : decide (ranged v ds) = (decide (v.length ≤ 16) && (!v.any noN && !ds.any (fun d => !decide (dotted d)))) := by
  rw [Bool.eq_iff_iff, decide_eq_true_iff]
  unfold ranged noN
  simp only [Bool.and_eq_true, decide_eq_true_eq, List.any_eq_false, Bool.not_eq_eq_eq_not, Bool.not_true, decide_eq_false_iff_not]
  constructor
  · rintro ⟨a, b, c⟩
    exact ⟨a, fun x hx => by have := b x hx; simp [this], fun x hx => not_not_intro (c x hx)⟩
  · rintro ⟨a, b, c⟩
    exact ⟨a, fun x hx => by have := b x hx; simpa using this, fun x hx => Classical.not_not.1 (c x hx)⟩
set_option maxHeartbeats 1000000 in
theorem ocInRange_calls (n c m e : Nat) (A B : Option Addr) (v : List Int) (ds : List Dt) (w : World) (h1 : NI w A n v) (h2 : ND w B m ds) (hn : n ≤ 1000000) (hm : m ≤ 1000000) :
    Calls Try.prog 36 #[.slice A n c, .slice B m e] w fun x w' => x = .returned (.bool (decide (ranged v ds))) ∧ Below w.heap.size w w' := by
  have HC := hid (ocHasN_calls n c A v w h1 hn)
  have HD := hid (ocHasD_calls m e B ds w h2 hm)
  have hl := h1.1
  obtain ⟨q, hq⟩ : ∃ q, decide (ranged v ds) = q := ⟨_, rfl⟩
  rw [hq]
  have HQ := hid (show q = (decide (n ≤ 16) && (!v.any noN && !ds.any (fun d => !decide (dotted d)))) from by rw [← hq, ranged_any, hl])
  obtain ⟨q1, hq1⟩ : ∃ q1, v.any noN = q1 := ⟨_, rfl⟩
  obtain ⟨q2, hq2⟩ : ∃ q2, ds.any (fun d => !decide (dotted d)) = q2 := ⟨_, rfl⟩
  rw [hq1] at HC HQ
  rw [hq2] at HD HQ
  clear hq hq1 hq2 h1 h2 hl
  by_cases h16 : n ≤ 16
  · have h16' : (n : Int) ≤ 16 := by omega
    cases q1 with
    | true =>
      have HE := hid (show q = false from by rw [HQ.out]; simp)
      clear HQ
      go_enter Try.func36, Try.ntmps36
      go_wp2_with fail
      refine HC.out.mono ?_
      rintro e W1 ⟨rfl, rfl⟩
      go_wp2_with fail
      go_ret
      exact ⟨ret_bool HE.out.symm, Below.refl _ _⟩
    | false =>
      have HE := hid (show q = !q2 from by rw [HQ.out]; simp [h16])
      clear HQ
      go_enter Try.func36, Try.ntmps36
      go_wp2_with fail
      refine HC.out.mono ?_
      rintro e W1 ⟨rfl, rfl⟩
      go_wp2_with fail
      refine HD.out.mono ?_
      rintro e W1 ⟨rfl, hb⟩
      have HB := hid hb
      clear hb
      go_wp2_with fail
      go_ret
      exact ⟨ret_bool HE.out.symm, HB.out⟩
  · have h16' : ¬ (n : Int) ≤ 16 := by omega
    have HE := hid (show q = false from by rw [HQ.out]; simp [h16])
    clear HQ
    go_enter Try.func36, Try.ntmps36
    go_wp2_with fail
    go_ret
    exact ⟨ret_bool HE.out.symm, Below.refl _ _⟩
theorem NI.take {w : World} {A : Option Addr} {n : Nat} {zs : List Int} (h : NI w A n zs) {k : Nat} (hk : k ≤ n) : NI w A k (zs.take k) := by
  refine ⟨by rw [List.length_take, h.1]; omega, fun hn => ?_⟩
  obtain ⟨b, off, e, hc⟩ := h.2 (by omega)
  refine ⟨b, off, e, fun j x hj => hc j x ?_⟩
  have hj2 : j < k := by
    have := (List.getElem?_eq_some_iff.1 hj).1
    rw [List.length_take] at this; omega
  rwa [List.getElem?_take_of_lt hj2] at hj
def sliceN : Value → Nat
  | .slice _ k _ => k
  | _ => 0
set_option maxHeartbeats 1000000 in
theorem ocTrim_calls (n c : Nat) (A : Option Addr) (v : List Int) (w : World) (h : NI w A n v) (hn : n ≤ 1000000) (hnc : n ≤ c) :
    Calls Try.prog 69 #[.slice A n c] w fun e w' => e = .returned (.slice A (trim v).length c) ∧ w = w' := by
  have HI := hid h; have HL := hid h.1
  clear h
  go_enter Try.func69, Try.ntmps69
  go_wp2_with fail
  go_loopw [0] (fun s wr => ∃ k : Nat, k ≤ n ∧ s = .slice A k c ∧ wr = w ∧ Hid (∀ i (h : i < v.length), k ≤ i → v[i] = 0)) (fun s _ => sliceN s)
  case atStart => exact ⟨n, Nat.le_refl _, rfl, rfl, hid (fun i h hi => by have := HL.out; omega)⟩
  case round =>
    obtain ⟨k, hk, rfl, rfl, HQ⟩ := hrel
    by_cases h0 : 0 < k
    · obtain ⟨j, rfl⟩ : ∃ j, k = j + 1 := ⟨k - 1, by omega⟩
      have hkc : ((j + 1 : Nat) : Int) = (j : Int) + 1 := by omega
      obtain ⟨b1, o1, x, rfl, hx, hc⟩ := HI.out.at_ (show j < n by omega)
      have HX := hid hx
      have h1 : (0 : Int) < ((j + 1 : Nat) : Int) := by omega
      have hs : IntKind.i64.wrap (((j + 1 : Nat) : Int) - 1) = (j : Int) := by rw [IntWalk.i64_in _ (by omega)]; omega
      have hjc : j ≤ c := by omega
      have hjc' : (j : Int) ≤ (c : Int) := by omega
      have hj1 : (j : Int) < ((j + 1 : Nat) : Int) := by omega
      clear hx hkc
      by_cases hx0 : x = 0
      · have HS := hid (show ∀ i (h : i < v.length), j ≤ i → v[i] = 0 from fun i h hi => by
          by_cases e : i = j
          · subst e
            obtain ⟨h5, h6⟩ := List.getElem?_eq_some_iff.1 HX.out
            rw [h6, hx0]
          · exact HQ.out i h (by omega))
        subst hx0
        clear HQ
        go_wp2_with fail
        go_roundw
        case rel => exact ⟨j, by omega, rfl, trivial, HS⟩
        case measure => simp [sliceN]
      · have HE := hid (show (trim v).length = j + 1 from by
          rw [trim_take (f := v) (n := j + 1) (by rw [HL.out]; omega) HQ.out (fun _ => by
            obtain ⟨h5, h6⟩ := List.getElem?_eq_some_iff.1 HX.out
            simp only [Nat.add_sub_cancel]
            rw [h6]; exact hx0), List.length_take, HL.out]
          omega)
        have hxb : (x == 0) = false := by simpa using hx0
        clear HQ
        go_wp2_with fail
        go_ret
        exact ⟨by rw [HE.out]; rfl, rfl⟩
    · obtain rfl : k = 0 := by omega
      have HE := hid (show (trim v).length = 0 from by
        rw [trim_take (f := v) (n := 0) (Nat.zero_le _) HQ.out (fun h => absurd h (by omega))]; simp)
      clear HQ h0
      go_wp2_with fail
      go_ret
      exact ⟨by rw [HE.out]; rfl, rfl⟩
theorem trim_pre (v : List Int) : trim v = v.take (trim v).length := by
  obtain ⟨k, h, _⟩ := trim_spec v
  have := congrArg (List.take (trim v).length) h
  exact (this.trans (List.take_left' rfl)).symm
end Go.Proofs.Ythjflgnoeenenaa
