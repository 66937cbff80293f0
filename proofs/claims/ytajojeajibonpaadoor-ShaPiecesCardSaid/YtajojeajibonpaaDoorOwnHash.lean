/- Contracts: a hash that New made: New, Write, Len, Sum. -/
import Derived.Test.YtajojeajibonpaaDoorOwnWriteX
import Derived.Test.YtajojeajibonpaaDoorOwnDigest
import Derived.Test.YtajojeajibonpaaDoorCells2
import Derived.LaidEqlPtr
namespace Go.Proofs.YtajojeajibonpaaDoor
open Go.RowKit Crc

/-- Block g is a hash that New made and that was given the bytes bs. -/
def HashB (w : World) (g : Nat) (bs : List UInt8) : Prop :=
  ∃ s rest, Kept bs s rest ∧ Blk w g 47 (part [.pointer (some ⟨g, 0, none⟩)] (strm s rest bs.length) [])
section
variable {w w' : World} {g : Nat} {bs : List UInt8}
theorem HashB.lt (h : HashB w g bs) : g < w.heap.size := by obtain ⟨_, _, _, hb⟩ := h; exact hb.lt
theorem HashB.keep (h : HashB w g bs) (hb : Below w.heap.size w w') : HashB w' g bs := by
  obtain ⟨s, r, hk, h⟩ := h; exact ⟨s, r, hk, h.keep hb⟩
theorem HashB.keepB {B : Nat} (h : HashB w g bs) (hb : Below B w w') (hg : g < B) : HashB w' g bs := by
  obtain ⟨s, r, hk, h⟩ := h; exact ⟨s, r, hk, h.keepB hb hg⟩
theorem HashB.grown {row : Option Nat} (h : HashB w g bs) (hb : w.grownBy w' row) (hg : row ≠ some g) : HashB w' g bs := by
  obtain ⟨s, r, hk, h⟩ := h; exact ⟨s, r, hk, h.grown hb hg⟩
theorem HashB.self (h : HashB w g bs) : w.cell? ⟨g, 0, none⟩ = some (.pointer (some ⟨g, 0, none⟩)) := by
  obtain ⟨s, r, _, h⟩ := h; exact h.cell 0 rfl
end

theorem infoHsz : (Tryd.prog.info? 47).map (·.size) = some 74 := by kernel_rfl
theorem valid_calls (g : Nat) (bs : List UInt8) (w : World) (hh : HashB w g bs) : Calls Tryd.prog 41 #[.pointer (some ⟨g, 0, none⟩)] w fun e w' => e = .returned (.bool true) ∧ w = w' := by
  obtain ⟨j, hj, _⟩ := Option.map_eq_some_iff.1 infoHsz
  have he := fun W => run_eql_ptr_same (P := Tryd.prog) W (tp := 39) (te := 47) ⟨g, 0, none⟩ (by kernel_rfl) hj
  have hc := hh.self
  clear hh hj
  go_enter Tryd.func41, Tryd.ntmps41
  go_wp2_with fail
  go_ret
  exact ⟨rfl, rfl⟩
theorem hlen_calls (g : Nat) (bs : List UInt8) (w : World) (hh : HashB w g bs) : Calls Tryd.prog 29 #[.pointer (some ⟨g, 0, none⟩)] w fun e w' => e = .returned (.int .i64 (bs.length : Int)) ∧ w = w' := by
  have hv := hid (valid_calls g bs w hh)
  obtain ⟨s, r, hk, hb⟩ := hh
  have hc := strm_len_cell hb hk.2.1 (off := 1) rfl
  clear hk hb
  go_enter Tryd.func29, Tryd.ntmps29
  go_wp2_with fail
  refine hv.out.mono ?_
  rintro e w' ⟨rfl, rfl⟩
  go_wp2_with fail
  go_ret
  exact ⟨rfl, rfl⟩
theorem hwrite_calls (g : Nat) (bs cs : List UInt8) (m c : Nat) (A : Option Addr) (w : World) (hh : HashB w g bs) (hs : SBx w g A m cs) (hc : m ≤ c) (hG : Glob w) (hg : 2 < g) (hn : bs.length + m ≤ 1099511627776) :
    Calls Tryd.prog 28 #[.pointer (some ⟨g, 0, none⟩), .slice A m c] w fun e w' => e = .returned (.int .i64 0) ∧ w.grownBy w' (some g) ∧ HashB w' g (bs ++ cs) := by
  have hv := hid (valid_calls g bs w hh)
  obtain ⟨s, r, hk, hb⟩ := hh
  have hw := hid (writeX_calls bs cs s r hk g 1 47 [.pointer (some ⟨g, 0, none⟩)] rfl m c A w hs hc hG hg hb hn)
  clear hk hb hs hG
  go_enter Tryd.func28, Tryd.ntmps28
  go_wp2_with fail
  refine hv.out.mono ?_
  rintro e w' ⟨rfl, rfl⟩
  go_wp2_with fail
  refine hw.out.mono ?_
  rintro e w' ⟨rfl, g1, s1, r1, hk1, hb1⟩
  have HR := hid (show w.grownBy w' (some g) ∧ HashB w' g (bs ++ cs) from ⟨g1, s1, r1, hk1, hb1⟩)
  clear g1 hk1 hb1
  go_wp2_with fail
  go_ret
  exact ⟨rfl, HR.out⟩
set_option maxHeartbeats 1000000 in
theorem hsum_calls (g : Nat) (bs : List UInt8) (w : World) (hh : HashB w g bs) (hG : Glob w) (hn : bs.length ≤ 1099511627776) :
    Calls Tryd.prog 27 #[.pointer (some ⟨g, 0, none⟩)] w fun e w' => e = .returned (.tuple #[.agg (bcells (sha bs)), .int .i64 0]) ∧ Below w.heap.size w w' := by
  have hz := (zero_of_info info26).1
  have K1 := hid (Blk.new w 26 (bcells (zeroB 32)))
  have B1 := hid (below_new w (.cells (bcells (zeroB 32)) 26))
  have hv := hid (valid_calls g bs _ (hh.keep B1.out))
  have hG1 := hG.keep B1.out
  obtain ⟨s, r, hk, hb⟩ := hh
  have hd := hid (digest_calls bs s r hk g 1 47 [.pointer (some ⟨g, 0, none⟩)] rfl _ hG1 (hb.keep B1.out) hn)
  clear hk hb hG hG1
  go_enter Tryd.func27, Tryd.ntmps27
  go_wp2_with fail
  refine hv.out.mono ?_
  rintro e w' ⟨rfl, rfl⟩
  go_wp2_with fail
  refine hd.out.mono ?_
  rintro _ w6 ⟨rfl, b6⟩
  have hl : (sha bs).length = 32 := rfl
  generalize hC : sha bs = lC at hl ⊢
  have HCe := hid hC; clear hC
  have EC2 : Hid ((Tryd.prog.info? 26).map (·.size) = some (bcells lC).size) := by rw [Hid, bcells_size, hl]; exact (zero_of_info info26).2
  have Hsz : Hid ((bcells (zeroB 32)).size = (bcells lC).size) := by rw [Hid, bcells_size, bcells_size, hl]; rfl
  have K6 := hid (K1.out.keep b6)
  have B6 := hid (B1.out.trans (b6.mono B1.out.size))
  clear hl b6
  go_wp2_with (refine wpList_store_blk rfl 26 _ _ rfl w.heap.size _ rfl rfl 26 _ K6.out EC2.out Hsz.out (bcells_oneCell _) ?_)
  refine bodyPost_ret (v := .tuple #[.agg (bcells lC), .int .i64 0]) (results_cell_tmp rfl _ _ w.heap.size 26 _ _ _ rfl rfl (K6.out.setRow _) Tryd.underlying26 EC2.out) rfl ⟨by rw [HCe.out], ?_⟩
  exact B6.out.trans (below_of_grown (grown_setRow w6 _ _) (Nat.le_of_lt K6.out.lt) (fun g' e => by cases e; omega))

/-- a struct that is built out of one part -/
theorem wpList_build {P : Program} {ops : Array Oper} {rest : List Oper} {o : Oper} {a : Act} {w : World} {Q : Exit → Act → World → Prop} (hgd : o.guard = none) (t : TypeId) (k : Nat) (x : Operand) (ho : o.op = .build t #[(k, x)]) (u v : Value) (hx : a.eval x = u)
    (hr : ∀ W, (Instr.build t #[(k, u)]).run P W = .ok v W) (h : wpList P ops Q rest (a.put o.dst v) w) : wpList P ops Q (o :: rest) a w := by
  refine wpList_plain hgd fun K hK => ?_
  unfold Oper.wp execOp
  simp only [ho, List.map_toArray, List.map_cons, List.map_nil, hx, Sem.run_bind, Sem.run_pure, Result.andThen_ok, hr]
  exact hK _ _ h
theorem run_build_hash (w : World) : (Instr.build 47 #[(1, .agg (strA st0 (zeroB 64) 0))]).run Tryd.prog w = .ok (.agg (part [.pointer none] (strm st0 (zeroB 64) 0) [])) w := by kernel_rfl
set_option maxHeartbeats 1000000 in
set_option maxRecDepth 100000 in
theorem new_calls (w : World) (hG : Glob w) :
    Calls Tryd.prog 30 #[] w fun e w' => ∃ g, e = .returned (.pointer (some ⟨g, 0, none⟩)) ∧ w.heap.size ≤ g ∧ HashB w' g [] ∧ Below w.heap.size w w' := by
  have hq := run_build_hash
  have HG := hid hG; clear hG
  go_enter Tryd.func30, Tryd.ntmps30
  go_wp2_with fail
  refine (begin_calls w HG.out).mono ?_
  rintro _ w2 ⟨rfl, b2⟩
  obtain ⟨cs, hcs⟩ : ∃ cs, cs = part [.pointer none] (strm st0 (zeroB 64) 0) [] := ⟨_, rfl⟩
  rw [← hcs] at hq
  generalize strA st0 (zeroB 64) 0 = u0 at hq ⊢
  have kb := Blk.new w2 47 cs
  have c0 : (w2.alloc (.cells cs 47)).cell? ⟨w2.heap.size, 0, none⟩ = some (.pointer none) := kb.cell 0 (by rw [hcs]; rfl)
  have f0 := kb.frozen 0
  have hst := Blk.new w2 47 (cs.setIfInBounds 0 (.pointer (some ⟨w2.heap.size, 0, none⟩)))
  have hb := b2.trans ((below_new w2 (.cells (cs.setIfInBounds 0 (.pointer (some ⟨w2.heap.size, 0, none⟩))) 47)).mono b2.size)
  have hh : HashB (w2.alloc (.cells (cs.setIfInBounds 0 (.pointer (some ⟨w2.heap.size, 0, none⟩))) 47)) w2.heap.size [] := by
    refine ⟨st0, zeroB 64, kept_start, ?_⟩
    have e : cs.setIfInBounds 0 (.pointer (some ⟨w2.heap.size, 0, none⟩)) = part [.pointer (some ⟨w2.heap.size, 0, none⟩)] (strm st0 (zeroB 64) 0) [] := by
      rw [hcs]; simp [part]
    rw [e] at hst ⊢
    exact hst
  have HB := hid hb; have HH := hid hh; have HQ := hid hq; have HSZ := hid b2.size
  clear hb hh hq hst hcs kb b2
  go_wp2_with (refine wpList_build rfl 47 1 (.tmp 2) rfl (.agg u0) _ rfl HQ.out ?_)
  go_ret
  exact ⟨_, rfl, HSZ.out, HH.out, HB.out⟩
end Go.Proofs.YtajojeajibonpaaDoor
