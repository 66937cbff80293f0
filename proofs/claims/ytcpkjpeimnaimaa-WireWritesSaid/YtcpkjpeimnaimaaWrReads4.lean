/- Contract: a law's reads, the other kinds; the kit's SameInts. -/
import Derived.Test.YtcpkjpeimnaimaaWrReads
namespace Go.Proofs.Ytcpkjpeimnaimaa
open Go.RowKit

def aggD (d : TypeDesc) : Bool := match d with | .struct _ => true | .array _ _ => true | _ => false
theorem run_load_cells {P : Program} {w : World} (t : TypeId) (ad : Addr) (cs : List Value) (hc : ∀ j v, cs[j]? = some v → w.cell? (ad.add j) = some v)
    {d : TypeDesc} (hu : P.underlying t = some d) (hd : aggD d = true) (hi : (P.info? t).map (·.size) = some cs.length) : (loadVar t ad).run P w = .ok (.agg cs.toArray) w := by
  have hl := run_loadCells_list (P := P) w ad cs hc
  cases hq : P.info? t with
  | none => simp [hq] at hi
  | some i =>
    have hs : i.size = cs.length := by simpa [hq] using hi
    have hagg : (isAgg t).run P w = .ok true w := by
      unfold isAgg
      rw [Sem.run_bind, run_underlying hu w]
      cases d <;> simp_all [aggD]
    simp [loadVar, Sem.run_bind, hagg, sizeOf, typeInfo, hq, hs, hl]
theorem underlying_dot : ∃ d, Try.prog.underlying 35 = some d ∧ aggD d = true := by
  have h : (Try.prog.underlying 35).map aggD = some true := by kernel_rfl
  obtain ⟨d, h1, h2⟩ := Option.map_eq_some_iff.1 h
  exact ⟨d, h1, h2⟩
theorem eql_dot (a b x y : Int) (W : World) : (binOp .eql 35 (.agg #[.int .i64 a, .int .i64 b]) (.agg #[.int .i64 x, .int .i64 y])).run Try.prog W = .ok (.bool (a == x && b == y)) W := by
  by_cases h1 : a = x
  · by_cases h2 : b = y
    · go_simp
    · go_simp
  · go_simp
attribute [local go_sem] steady
attribute [local irreducible] wpPhase
section
variable (base g f : Nat) (r : Option Nat) (bs : List UInt8) (s : RS) (t : Th) (w : World)
set_option maxHeartbeats 2000000 in
theorem reads4 (hk : t.k = 4) (h : RdB w base g f r bs s) (ht : TOK w t) :
    Calls Try.prog 58 #[.pointer (some ⟨g, 0, none⟩), .agg (TV t)] w (RtPost w base g f r bs t s) := by
  obtain ⟨b1, k1, t1⟩ := th_cells t w ht
  have HH := hid h
  have e1 : rdV bs t s = (((dotS bs s).1.1 : Int) == t.x && ((dotS bs s).1.2 : Int) == t.y) := by unfold rdV; rw [if_neg (by omega), if_neg (by omega), if_neg (by omega), if_pos hk]
  have e2 : rdS bs t s = (dotS bs s).2 := by unfold rdS; rw [if_neg (by omega), if_neg (by omega), if_neg (by omega), if_pos hk]
  have HFIN := hid (show ∀ w', RdPost w base g f r bs (dotS bs s).2 w' → RtPost w base g f r bs t s (.returned (.bool (((dotS bs s).1.1 : Int) == t.x && ((dotS bs s).1.2 : Int) == t.y))) w' from fun w' hp => ⟨by rw [e1], by rw [e2]; exact hp⟩)
  have c0 := k1.cell 0 (TV_head (t := t) (i := 0) rfl)
  rw [hk] at c0
  have h32 := t1.1
  have HLD := hid (fun W (hb : Blk W w.heap.size 38 (TV t)) => show (loadVar 35 ⟨w.heap.size, 35, none⟩).run Try.prog W = .ok (.agg #[.int .i64 t.x, .int .i64 t.y]) W from by
    obtain ⟨d, u1, u2⟩ := underlying_dot
    refine run_load_cells _ _ [.int .i64 t.x, .int .i64 t.y] (fun j v hj => ?_) u1 u2 (by kernel_rfl)
    rw [Addr.add_lit]
    match j, hj with
    | 0, hj => cases hj; exact hb.cell 35 (TV_tail (t := t) h32 (i := 0) rfl)
    | 1, hj => cases hj; exact hb.cell 36 (TV_tail (t := t) h32 (i := 1) rfl)
    | n + 2, hj => simp at hj)
  have H1 := hid (h.keep b1); have B1 := hid b1; have K1 := hid k1
  clear h ht k1 b1 t1 e1 e2 hk h32
  generalize TV t = cs at c0 HLD B1 H1 K1 ⊢
  generalize t.x = tx at HLD HFIN
  generalize t.y = ty at HLD HFIN
  go_enter Try.func58, Try.ntmps58
  go_wp2_with fail
  generalize w.alloc (.cells cs 38) = w1 at c0 B1 H1 K1 ⊢
  refine wp_region_phase (fun k w' => Blk w' w.heap.size 38 cs ∧ if k = 0 then w' = w1.drew else RdPost w1.drew base g f r bs (dotS bs s).2 w') (fun w' => Blk w' w.heap.size 38 cs) (fun _ w' h => h.1) (by kernel_rfl) (by kernel_rfl) (by kernel_rfl) ⟨K1.out.drew, rfl⟩ ?_
  intro S _ at_ hS
  have HSX := hid hS
  clear hS
  (refine phase_plain rfl (fun K hK => ?_); go_simp; refine hK _ ?_; clear hK K)
  refine phase_call rfl rfl 44 #[.pointer (some ⟨g, 0, none⟩)] (fun w => by go_simp) (.agg #[.int .i64 ((dotS bs s).1.1 : Int), .int .i64 ((dotS bs s).1.2 : Int)]) (fun w' hw => by
    obtain ⟨hb, rfl⟩ := hw
    exact (rDot_calls base g f r bs s _ H1.out.drew).mono fun e w'' ⟨he, hp⟩ => ⟨he, rblk HH.out (Nat.le_refl _) hb hp, hp⟩) ?_
  (refine phase_plain rfl (fun K hK => ?_); go_simp; refine hK _ ?_; clear hK K)
  refine phase_load_run rfl rfl 35 _ rfl ⟨w.heap.size, 35, none⟩ rfl (.agg #[.int .i64 tx, .int .i64 ty]) (by rintro w' ⟨x, rfl⟩; exact HLD.out _ (HSX.out x)) ?_
  have heq := eql_dot ((dotS bs s).1.1 : Int) ((dotS bs s).1.2 : Int) tx ty
  (refine phase_plain rfl (fun K hK => ?_); go_simp; refine hK _ ?_; clear hK K)
  (refine phase_plain rfl (fun K hK => ?_); go_simp; refine hK _ ?_; clear hK K)
  refine phase_nil ?_
  rintro w2 ⟨-, hp⟩
  have hp2 : RdPost w1.drew base g f r bs (dotS bs s).2 w2 := hp
  have HK := hid (HFIN.out w2 (RdPost.fresh B1.out.drew hp2))
  clear hp hp2 HFIN HSX HLD
  go_wp2_with fail
  go_ret
  exact HK.out
end
end Go.Proofs.Ytcpkjpeimnaimaa
