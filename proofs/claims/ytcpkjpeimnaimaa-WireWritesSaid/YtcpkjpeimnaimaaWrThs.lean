/- Things that came in, one behind the other; contract: LentBytes, whose row is the call's own. -/
import Derived.Test.YtcpkjpeimnaimaaWrSame
import Derived.Test.YtcpkjpeimnaimaaWrKept
import Derived.Test.YtcpkjpeimnaimaaWrOwnR2
namespace Go.Proofs.Ytcpkjpeimnaimaa
open Go.RowKit

theorem long_each {ts : List Th} (hl : longV ts = false) {t : Th} (hm : t ∈ ts) : ts.length ≤ 30 ∧ t.cs.length ≤ 60 ∧ t.zs.length ≤ 60 := by
  unfold longV at hl
  rw [Bool.or_eq_false_iff] at hl
  have h30 : ts.length ≤ 30 := by simpa using hl.2
  rw [List.take_of_length_le (by omega)] at hl
  have h1 := hl.1
  rw [List.any_eq_false] at h1
  have h2 := h1 t hm
  simp only [Bool.or_eq_true, decide_eq_true_eq, not_or] at h2
  omega
theorem long30 {ts : List Th} (hl : longV ts = false) : ts.length ≤ 30 := by
  unfold longV at hl
  rw [Bool.or_eq_false_iff] at hl
  simpa using hl.2
theorem THS.tok {w : World} {A : Option Addr} {n : Nat} {ts : List Th} (h : THS w A n ts) (hl : longV ts = false) {t : Th} (hm : t ∈ ts) : TOK w t :=
  (h.ok t hm).strong (long_each hl hm).2.1 (long_each hl hm).2.2
theorem THS.load {w : World} {b off n : Nat} {ts : List Th} (h : THS w (some ⟨b, off, none⟩) n ts) {k : Nat} {t : Th} (hk : ts[k]? = some t) (hn : 0 < n) : ∀ j v, (TV t).toList[j]? = some v → w.cell? ((⟨b, off + k * 39, none⟩ : Addr).add j) = some v := by
  obtain ⟨b', off', e, hc⟩ := h.at_ hn
  cases e
  intro j v hj
  rw [Addr.add_lit]
  exact hc k t hk j v (by simpa using hj)
theorem run_load_thing {w : World} {t : Th} {ad : Addr} (h32 : t.id.length = 32) (hl : ∀ j v, (TV t).toList[j]? = some v → w.cell? (ad.add j) = some v) : (loadVar 38 ad).run Try.prog w = .ok (.agg (TV t)) w := by
  have HSZ : (Try.prog.info? 38).map (·.size) = some (TV t).toList.length := by rw [Array.length_toList, TV_size h32]; kernel_rfl
  have HUN : ∃ d, Try.prog.underlying 38 = some d ∧ aggD d = true := by
    have h : (Try.prog.underlying 38).map aggD = some true := by kernel_rfl
    obtain ⟨d, h1, h2⟩ := Option.map_eq_some_iff.1 h
    exact ⟨d, h1, h2⟩
  obtain ⟨d, u1, u2⟩ := HUN
  have := run_load_cells (P := Try.prog) 38 ad (TV t).toList hl u1 u2 HSZ
  simpa using this
theorem wpList_load_run {P : Program} {ops : Array Oper} {rest : List Oper} {o : Oper} {a : Act} {w : World} {Q : Exit → Act → World → Prop} (hg : o.guard = none) (t : TypeId) (x : Operand) (ho : o.op = .load t x) (ad : Addr) (v : Value) (hx : a.eval x = .pointer (some ad))
    (hr : (loadVar t ad).run P w = .ok v w) (h : wpList P ops Q rest (a.put o.dst v) w) : wpList P ops Q (o :: rest) a w :=
  wpList_plain hg fun K hK => by
    unfold Oper.wp execOp
    simp only [ho, hx, Instr.loadAt, Instr.sureAddr, Sem.run_bind, Sem.run_pure, Result.andThen_ok, hr]
    exact hK _ _ h
theorem Own.front {w : World} {base : Nat} {e : TypeId} {A : Option Addr} {n m c : Nat} {bs cs : List UInt8} (h : Own w base e (.slice A (n + m) c) (n + m) (bs ++ cs)) (hl : bs.length = n) : Own w base e (.slice A n c) n bs := by
  refine ⟨by simp [hl], ?_⟩
  rcases h.2 with ⟨e1, h0⟩ | ⟨g, cap, cur, e1, h1, h2, h3, h4, h5, h6⟩
  · injection e1 with a b c'
    obtain rfl : n = 0 := by omega
    exact .inl ⟨by rw [a, c'], rfl⟩
  · injection e1 with a b c'
    refine .inr ⟨g, cap, cur, by rw [a, c'], h1, h2, by omega, h4, h5, ?_⟩
    rw [Nat.mul_one] at h6
    have h7 := congrArg (List.take n) h6
    rw [List.take_take, Nat.min_eq_left (by omega), List.map_append, List.take_append_of_le_length (by simp [hl]), List.take_of_length_le (l := bs.map bv) (by simp [hl])] at h7
    rw [Nat.mul_one]
    exact h7
theorem lentOwn_calls (B n c : Nat) (A : Option Addr) (bs : List UInt8) (w : World) (hs : SB w B A n bs) (hn : n ≤ 549755813888) :
    Calls Try.prog 16 #[.slice A n c] w
      fun e w' => ∃ A' c', e = .returned (.slice A' n c') ∧ n + 4 ≤ c' ∧ SB w' w'.heap.size A' (n + 4) (bs ++ [201, 202, 203, 204]) ∧ Own w' w.heap.size 5 (.slice A' n c') n bs ∧ Below w.heap.size w w' := by
  go_enter Try.func16, Try.ntmps16
  go_wp2_with (at_builtin; refine Held.go ?_)
  have ho := Own.lit w 5 w.heap.size [] #[] 0 rfl rfl (Nat.le_refl _) (by omega)
  have hb := below_new w (.cells #[] 5)
  generalize w.alloc (.cells #[] 5) = w1 at ho hb ⊢
  refine wpList_append_bytes _ rfl _ _ _ rfl _ Try.underlying31 info5 w.heap.size _ 0 [] rfl ho B A n c bs rfl (hs.keep hb) (by omega) hb.size ?_
  intro v2 w2 h1 h2 h3
  have hb2 := hb.trans (below_of_grown h2 hb.size (fun g e => (ho.block g e).1))
  clear h2 h3 ho hb
  rw [Nat.zero_add, List.nil_append] at h1
  go_wp2_with (at_builtin; refine Held.go ?_)
  have ho3 := Own.lit w2 5 w2.heap.size [201, 202, 203, 204] #[.int .u8 201, .int .u8 202, .int .u8 203, .int .u8 204] 4 rfl rfl (Nat.le_refl _) (by omega)
  have hb3 := below_new w2 (.cells #[.int .u8 201, .int .u8 202, .int .u8 203, .int .u8 204] 5)
  generalize w2.alloc (.cells #[.int .u8 201, .int .u8 202, .int .u8 203, .int .u8 204] 5) = w3 at ho3 hb3 ⊢
  obtain ⟨A3, c3, e3, _, hs3, _⟩ := ho3.sb
  rw [e3]
  have h1' := h1.keep hb3
  refine wpList_append_bytes _ rfl _ _ _ rfl _ Try.underlying31 info5 w.heap.size _ n bs rfl h1' _ A3 4 c3 [201, 202, 203, 204] rfl hs3 (by omega) (Nat.le_trans hb2.size hb3.size) ?_
  intro v4 w4 h4 g4 t4
  have hb4 := (hb2.trans (hb3.mono hb2.size)).trans (below_of_grown g4 (Nat.le_trans hb2.size hb3.size) (fun g e => (h1'.block g e).1))
  obtain ⟨A4, c4, rfl, hc4, hs4, _⟩ := h4.sb
  have ho4 := h4.front hs.1
  clear h1 h1' ho3 hb3 e3 hs3 g4 t4 h4 hb2
  go_wp2_with fail
  go_ret
  exact ⟨A4, c4, rfl, hc4, hs4, ho4, hb4⟩

end Go.Proofs.Ytcpkjpeimnaimaa
