/- Contract: the project's ID. -/
import Derived.Test.YtgbjnndebdmijaaDoorNmRun
import Derived.Test.YtgbjnndebdmijaaDoorShaBytes
import Derived.Test.YtgbjnndebdmijaaDoorPart
import Derived.Test.YtgbjnndebdmijaaDoorNewSet
import Derived.Test.YtgbjnndebdmijaaDoorOrders
namespace Go.Proofs.YtgbjnndebdmijaaDoor
open Go.RowKit

/-- what ID answers -/
def idRes (l : List UInt8) : List UInt8 × Int × Int := if stopAt l = 71 ∧ l.length = 71 then (idAt l 64, 0, 0) else (zeroB 32, 8, (stopAt l : Int))
def fcells (f : Int × Int) : Array Value := #[.int .i64 f.1, .int .i64 f.2]
theorem wpList_build0 {P : Program} {ops : Array Oper} {rest : List Oper} {o : Oper} {a : Act} {w : World} {Q : Exit → Act → World → Prop} (hgd : o.guard = none) (t : TypeId) (ho : o.op = .build t #[]) (v : Value)
    (hr : ∀ W, (Instr.build t #[]).run P W = .ok v W) (h : wpList P ops Q rest (a.put o.dst v) w) : wpList P ops Q (o :: rest) a w := by
  refine wpList_plain hgd fun K hK => ?_
  unfold Oper.wp execOp
  simp only [ho, List.map_toArray, List.map_nil, Sem.run_bind, Sem.run_pure, Result.andThen_ok, hr]
  exact hK _ _ h
theorem infoDig : (Tryd.prog.info? 37).map (fun i => (i.zero, i.size)) = some (some (.agg (dcells (zeroB 32) 0 0)), 34) := by kernel_rfl
theorem run_build_dig (w : World) : (Instr.build 37 #[]).run Tryd.prog w = .ok (.agg (dcells (zeroB 32) 0 0)) w := by kernel_rfl
theorem run_build_id0 (w : World) : (Instr.build 23 #[]).run Tryd.prog w = .ok (.agg (bcells (zeroB 32))) w := by kernel_rfl
theorem run_build_f0 (w : World) : (Instr.build 27 #[]).run Tryd.prog w = .ok (.agg #[.int .i64 0, .int .i64 0]) w := by kernel_rfl
/-- two results in memory -/
theorem results_cell_cell {P : Program} {fn : Func} {p q : Tmp} {ty ty2 : TypeId} (h : fn.results = #[.cell p ty, .cell q ty2]) (tmps : Array Value) (w : World) (g g2 : Nat) (t t2 : TypeId) (cs cs2 : Array Value) (d d2 : TypeDesc)
    (hp : tmps.getD p undef = .pointer (some ⟨g, 0, none⟩)) (hq : tmps.getD q undef = .pointer (some ⟨g2, 0, none⟩)) (hg : Blk w g t cs) (hg2 : Blk w g2 t2 cs2)
    (hu : P.underlying ty = some d) (hd : (match d with | .struct _ => true | .array _ _ => true | _ => false) = true) (hi : (P.info? ty).map (·.size) = some cs.size)
    (hu2 : P.underlying ty2 = some d2) (hd2 : (match d2 with | .struct _ => true | .array _ _ => true | _ => false) = true) (hi2 : (P.info? ty2).map (·.size) = some cs2.size) :
    (results fn tmps).run P w = .ok (.tuple #[.agg cs, .agg cs2]) w := by
  have hp' : tmps[p]?.getD undef = .pointer (some ⟨g, 0, none⟩) := by simpa using hp
  have hq' : tmps[q]?.getD undef = .pointer (some ⟨g2, 0, none⟩) := by simpa using hq
  simp [results, h, hp', hq', asAddr, run_loadVar_row w g t ty cs (0, 0) _ hg hu hd hi, run_loadVar_row w g2 t2 ty2 cs2 (0, 0) _ hg2 hu2 hd2 hi2]

set_option maxHeartbeats 4000000 in
set_option maxRecDepth 100000 in
theorem own_id (s : ByteArray) (hs : s.size ≤ 1099511627776) (w : World) :
    Calls Tryd.prog 5 #[.string s] w fun e w' => e = .returned (.tuple #[.agg (bcells (idRes s.data.toList).1), .agg (fcells (idRes s.data.toList).2)]) ∧ Below w.heap.size w w' := by
  have hz1 := (zero_of_info info26).1
  have hz2 := (zero_of_info infoFault).1
  obtain ⟨D, hD⟩ : ∃ D : Array Value, (#[.int .u8 0, .int .u8 0, .int .u8 0, .int .u8 0, .int .u8 0, .int .u8 0, .int .u8 0, .int .u8 0, .int .u8 0, .int .u8 0, .int .u8 0, .int .u8 0, .int .u8 0, .int .u8 0, .int .u8 0, .int .u8 0, .int .u8 0, .int .u8 0, .int .u8 0, .int .u8 0, .int .u8 0, .int .u8 0, .int .u8 0, .int .u8 0, .int .u8 0, .int .u8 0, .int .u8 0, .int .u8 0, .int .u8 0, .int .u8 0, .int .u8 0, .int .u8 0, .int .i64 0, .int .i64 0] : Array Value) = D := ⟨_, rfl⟩
  have hDD : D = dcells (zeroB 32) 0 0 := by rw [← hD]; rfl
  have HDD := hid hDD
  have k2 := ((Blk.new w 23 (bcells (zeroB 32))).alloc (.cells #[.int .i64 0, .int .i64 0] 27)).alloc (.cells D 37)
  have k3 := (Blk.new (w.alloc (.cells (bcells (zeroB 32)) 23)) 27 #[.int .i64 0, .int .i64 0]).alloc (.cells D 37)
  have k4 := Blk.new ((w.alloc (.cells (bcells (zeroB 32)) 23)).alloc (.cells #[.int .i64 0, .int .i64 0] 27)) 37 D
  have b4 : Below w.heap.size w (((w.alloc (.cells (bcells (zeroB 32)) 23)).alloc (.cells #[.int .i64 0, .int .i64 0] 27)).alloc (.cells D 37)) :=
    (((Below.refl _ _).alloc (Nat.le_refl _) _).alloc (by simp) _).alloc (by simp; omega) _
  rw [size_new] at k3
  rw [size_new, size_new] at k4
  have K2 := hid k2; have K3 := hid k3; have K4 := hid k4; have B := hid b4
  clear k2 k3 k4 b4 hDD
  go_enter Tryd.func5, Tryd.ntmps5
  go_wp2_with fail
  clear hD
  generalize ((w.alloc (.cells (bcells (zeroB 32)) 23)).alloc (.cells #[.int .i64 0, .int .i64 0] 27)).alloc (.cells D 37) = w1 at K2 K3 K4 B ⊢
  generalize hgw : w.heap.size = G at K2 K3 K4 B ⊢
  have HGW := hid hgw; clear hgw
  have hb0 := K4.out
  rw [HDD.out] at hb0
  have hI0 : DI s.data.toList (G + 1 + 1) 0 15 #[.pointer (some ⟨G + 1 + 1, 0, none⟩)] (dcells (zeroB 32) 0 0) :=
    ⟨by omega, by omega, rfl, rfl, rfl, by rw [show idAt s.data.toList (0 - 7) = zeroB 32 from idAt_none _]; rfl⟩
  refine (examine_calls s (G + 1 + 1) 37 (DI s.data.toList (G + 1 + 1)) (fun _ => True) (DStop s.data.toList) (DDone s.data.toList) 8 (fun _ _ _ _ => trivial) (id_step s _) (id_end s _) _ _ _ w1 hI0 hb0 trivial hs).mono ?_
  rintro e w2 ⟨gx, ⟨pos, hst, rfl⟩ | ⟨rfl, cs, hdn, hb2⟩⟩
  · have hres : idRes s.data.toList = (zeroB 32, 8, (pos : Int)) := by
      unfold idRes
      rw [hst.1, if_neg hst.2]
    have HRES := hid hres
    have K22 := hid (K2.out.grown gx (by simp only [ne_eq, Option.some.injEq]; omega)); have K32 := hid (K3.out.grown gx (by simp only [ne_eq, Option.some.injEq]; omega))
    have B2 := hid (B.out.trans (below_of_grown gx (by have := K4.out.lt; omega) (fun g' e => by cases e; omega)))
    clear hres gx hst hb0 hI0
    have hpos : (0 : Int) ≤ (pos : Int) := by omega
    go_wp2_with fail
    have EF : Hid ((Tryd.prog.info? 27).map (·.size) = some 2) := (zero_of_info infoFault).2
    have EI : Hid ((Tryd.prog.info? 23).map (·.size) = some (bcells (zeroB 32)).size) := (zero_of_info info26).2
    have K5 := hid (Blk.new w2 27 #[.int .i64 8, .int .i64 (pos : Int)]).drew
    have K23 := hid (K22.out.alloc (.cells #[.int .i64 8, .int .i64 (pos : Int)] 27)).drew
    have K33 := hid (K32.out.alloc (.cells #[.int .i64 8, .int .i64 (pos : Int)] 27)).drew
    have B3 := hid (B2.out.alloc (by have := K22.out.lt; omega) (.cells #[.int .i64 8, .int .i64 (pos : Int)] 27)).drew
    have lb := K32.out.lt
    clear K22 K32 B2
    refine wp_region_orders (by kernel_rfl) [[0, 1, 2, 3], [0, 2, 1, 3], [1, 0, 2, 3]] (by kernel_rfl) ?_
    generalize (w2.alloc (.cells #[.int .i64 8, .int .i64 (pos : Int)] 27)).drew = w3 at K5 K23 K33 B3 ⊢
    generalize w2.heap.size = gb at K5 lb ⊢
    have g4 := grown_setRow w3 G (bcells (zeroB 32))
    have K24 := hid (K23.out.setRow (bcells (zeroB 32)))
    have K34 := hid (K33.out.grown g4 (by simp))
    have K54 := hid (K5.out.grown g4 (by simp; omega))
    have B4 := hid (B3.out.trans (below_of_grown g4 (Nat.le_of_lt K23.out.lt) (fun g' e => by cases e; omega)))
    have g5 := grown_setRow (w3.setRow G (bcells (zeroB 32))) (G + 1) #[.int .i64 8, .int .i64 (pos : Int)]
    have K25 := hid (K24.out.grown g5 (by simp))
    have K35 := hid (K34.out.setRow #[.int .i64 8, .int .i64 (pos : Int)])
    have B5 := hid (B4.out.trans (below_of_grown g5 (Nat.le_of_lt K24.out.lt) (fun g' e => by cases e; omega)))
    clear g4 g5 lb K3 K2 K4 B
    refine List.forall_mem_cons.2 ⟨?_, List.forall_mem_cons.2 ⟨?_, List.forall_mem_cons.2 ⟨?_, fun _ h => by cases h⟩⟩⟩
    all_goals
      simp only [List.filterMap_cons, List.filterMap_nil, List.getElem?_cons_succ, List.getElem?_cons_zero]
    · refine wpList_build0 rfl 23 rfl _ run_build_id0 ?_
      refine wpList_load_row rfl 27 _ rfl gb rfl _ _ (0, 0) _ K5.out Tryd.underlying27 rfl EF.out ?_
      refine wpList_store_blk rfl 23 _ _ rfl G (bcells (zeroB 32)) rfl rfl 23 _ K23.out EI.out rfl (bcells_oneCell _) ?_
      refine wpList_store_blk rfl 27 _ _ rfl (G + 1) #[.int .i64 8, .int .i64 (pos : Int)] rfl rfl 27 _ K34.out EF.out rfl (by rfl) ?_
      refine wpList_nil ?_
      go_wp2_with fail
      refine bodyPost_ret (v := .tuple #[.agg (bcells (zeroB 32)), .agg #[.int .i64 8, .int .i64 (pos : Int)]]) (results_cell_cell rfl _ _ G (G + 1) 23 27 _ _ _ _ rfl rfl K25.out K35.out Tryd.underlying23 rfl EI.out Tryd.underlying27 rfl EF.out) rfl ⟨by rw [HRES.out]; rfl, ?_⟩
      rw [HGW.out]
      exact B5.out
    · refine wpList_build0 rfl 23 rfl _ run_build_id0 ?_
      refine wpList_store_blk rfl 23 _ _ rfl G (bcells (zeroB 32)) rfl rfl 23 _ K23.out EI.out rfl (bcells_oneCell _) ?_
      refine wpList_load_row rfl 27 _ rfl gb rfl _ _ (0, 0) _ K54.out Tryd.underlying27 rfl EF.out ?_
      refine wpList_store_blk rfl 27 _ _ rfl (G + 1) #[.int .i64 8, .int .i64 (pos : Int)] rfl rfl 27 _ K34.out EF.out rfl (by rfl) ?_
      refine wpList_nil ?_
      go_wp2_with fail
      refine bodyPost_ret (v := .tuple #[.agg (bcells (zeroB 32)), .agg #[.int .i64 8, .int .i64 (pos : Int)]]) (results_cell_cell rfl _ _ G (G + 1) 23 27 _ _ _ _ rfl rfl K25.out K35.out Tryd.underlying23 rfl EI.out Tryd.underlying27 rfl EF.out) rfl ⟨by rw [HRES.out]; rfl, ?_⟩
      rw [HGW.out]
      exact B5.out
    · refine wpList_load_row rfl 27 _ rfl gb rfl _ _ (0, 0) _ K5.out Tryd.underlying27 rfl EF.out ?_
      refine wpList_build0 rfl 23 rfl _ run_build_id0 ?_
      refine wpList_store_blk rfl 23 _ _ rfl G (bcells (zeroB 32)) rfl rfl 23 _ K23.out EI.out rfl (bcells_oneCell _) ?_
      refine wpList_store_blk rfl 27 _ _ rfl (G + 1) #[.int .i64 8, .int .i64 (pos : Int)] rfl rfl 27 _ K34.out EF.out rfl (by rfl) ?_
      refine wpList_nil ?_
      go_wp2_with fail
      refine bodyPost_ret (v := .tuple #[.agg (bcells (zeroB 32)), .agg #[.int .i64 8, .int .i64 (pos : Int)]]) (results_cell_cell rfl _ _ G (G + 1) 23 27 _ _ _ _ rfl rfl K25.out K35.out Tryd.underlying23 rfl EI.out Tryd.underlying27 rfl EF.out) rfl ⟨by rw [HRES.out]; rfl, ?_⟩
      rw [HGW.out]
      exact B5.out
  · have hres : idRes s.data.toList = (idAt s.data.toList 64, 0, 0) := by
      unfold idRes
      rw [if_pos ⟨hdn.1, hdn.2.1⟩]
    obtain ⟨_, _, rfl⟩ := hdn
    have HRES := hid hres
    have K22 := hid (K2.out.grown gx (by simp only [ne_eq, Option.some.injEq]; omega)); have K32 := hid (K3.out.grown gx (by simp only [ne_eq, Option.some.injEq]; omega))
    have B2 := hid (B.out.trans (below_of_grown gx (by have := K4.out.lt; omega) (fun g' e => by cases e; omega)))
    have hp : Blk w2 (G + 1 + 1) 37 (part [] ((idAt s.data.toList 64).map bv) [.int .i64 ((7 : Nat) : Int), .int .i64 ((32 : Nat) : Int)]) := hb2
    have hll := idAt_length s.data.toList 64
    generalize idAt s.data.toList 64 = idl at hp hll HRES
    have lb := K32.out.lt
    have EF : Hid ((Tryd.prog.info? 27).map (·.size) = some 2) := (zero_of_info infoFault).2
    have EI : Hid ((Tryd.prog.info? 23).map (·.size) = some (bcells idl).size) := by rw [Hid, bcells_size, hll]; exact (zero_of_info info26).2
    have EP : Hid ((Tryd.prog.info? 23).map (·.size) = some (idl.map bv).length) := by rw [Hid, List.length_map, hll]; exact (zero_of_info info26).2
    have Hsz : Hid ((bcells (zeroB 32)).size = (bcells idl).size) := by rw [Hid, bcells_size, bcells_size, hll]; rfl
    have HP := hid (hp.alloc (.cells #[.int .i64 0, .int .i64 0] 27))
    have K23 := hid (K22.out.alloc (.cells #[.int .i64 0, .int .i64 0] 27))
    have K33 := hid (K32.out.alloc (.cells #[.int .i64 0, .int .i64 0] 27))
    have B3 := hid (B2.out.alloc (by have := K22.out.lt; omega) (.cells #[.int .i64 0, .int .i64 0] 27))
    clear K22 K32 B2 hres gx hb0 hI0 hp hb2 hll K2 K3 K4 B
    go_wp2_with ((refine wpList_load_part rfl 23 _ rfl (G + 1 + 1) 0 rfl HP.out rfl Tryd.underlying23 rfl EP.out ?_); refine Held.go ?_)
    rw [show (idl.map bv).toArray = bcells idl from rfl]
    generalize w2.alloc (.cells #[.int .i64 0, .int .i64 0] 27) = w3 at HP K23 K33 B3 ⊢
    unfold Held
    have g4 := grown_setRow w3 G (bcells idl)
    have K24 := hid (K23.out.setRow (bcells idl))
    have K34 := hid (K33.out.grown g4 (by simp))
    have B4 := hid (B3.out.trans (below_of_grown g4 (Nat.le_of_lt K23.out.lt) (fun g' e => by cases e; omega)))
    have g5 := grown_setRow (w3.setRow G (bcells idl)) (G + 1) #[.int .i64 0, .int .i64 0]
    have K25 := hid (K24.out.grown g5 (by simp))
    have K35 := hid (K34.out.setRow #[.int .i64 0, .int .i64 0])
    have B5 := hid (B4.out.trans (below_of_grown g5 (Nat.le_of_lt K24.out.lt) (fun g' e => by cases e; omega)))
    clear g4 g5 lb
    go_wp2_with (first
      | (refine wpList_store_blk rfl 23 _ _ rfl G (bcells idl) rfl rfl 23 _ K23.out EI.out Hsz.out (bcells_oneCell _) ?_)
      | (refine wpList_store_blk rfl 27 _ _ rfl (G + 1) #[.int .i64 0, .int .i64 0] rfl rfl 27 _ K34.out EF.out rfl (by rfl) ?_))
    refine bodyPost_ret (v := .tuple #[.agg (bcells idl), .agg #[.int .i64 0, .int .i64 0]]) (results_cell_cell rfl _ _ G (G + 1) 23 27 _ _ _ _ rfl rfl K25.out K35.out Tryd.underlying23 rfl EI.out Tryd.underlying27 rfl EF.out) rfl ⟨by rw [HRES.out]; rfl, ?_⟩
    rw [HGW.out]
    exact B5.out
end Go.Proofs.YtgbjnndebdmijaaDoor
