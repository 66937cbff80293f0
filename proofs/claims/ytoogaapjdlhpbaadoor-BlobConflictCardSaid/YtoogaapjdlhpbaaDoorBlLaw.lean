/- Contracts: what the laws of blob ask: puts, awake. -/
import Derived.Test.YtoogaapjdlhpbaaDoorBlNo
import Derived.Lib.ConvBytes
namespace Go.Proofs.YtoogaapjdlhpbaaDoor
open Go.RowKit Crc

/-- a text as bytes: a new row -/
theorem wpList_text_bytes {P : Program} {w : World} {ops : Array Oper} {rest : List Oper} {o : Oper} {a : Act} {Q : Exit → Act → World → Prop} (hgd : o.guard = none) (src dst e : TypeId) (x : Operand) (ho : o.op = .convert src dst x)
    (hs : P.underlying src = some .string) (hd : P.underlying dst = some (.slice e)) (he : P.underlying e = some (.int .u8)) (cs : List UInt8) (hx : a.eval x = .string (strB cs))
    (h : ∀ w' c, Below w.heap.size w w' → w'.heap.size = w.heap.size + 1 → SB w' w'.heap.size (some ⟨w.heap.size, 0, none⟩) cs.length cs → cs.length ≤ c → wpList P ops Q rest (a.put o.dst (.slice (some ⟨w.heap.size, 0, none⟩) cs.length c)) w') : wpList P ops Q (o :: rest) a w := by
  refine wpList_plain hgd fun K hK => ?_
  have hr := Lib.run_convert_string_bytes (P := P) w src dst e (strB cs) hs hd he
  have hsz := Lib.bytesWorld_size w e (strB cs)
  unfold Oper.wp execOp
  simp only [ho, hx, Sem.run_bind, Sem.run_pure, Result.andThen_ok, hr]
  refine hK _ _ (h _ _ ⟨rfl, rfl, rfl, by omega, fun k hk => Lib.bytesWorld_at_old w e (strB cs) k hk⟩ hsz ⟨rfl, fun _ => ⟨w.heap.size, 0, rfl, by omega, fun j y hj => ?_⟩⟩ (grownCap_ge w cs.length 0 e))
  have hlt : j < cs.length := (List.getElem?_eq_some_iff.1 hj).1
  have := Lib.bytesWorld_cell w e (strB cs) j hlt
  rw [Nat.zero_add, this]
  simp [strB, List.getD, hj, bv]
section
variable {w : World} {F : List Nat} {s m k : Nat} {b : BS} {f0 : List UInt8 → Option Nat}
set_option maxRecDepth 20000 in
set_option maxHeartbeats 2000000 in
theorem puts_calls (hs : StB w F s m k b f0) (cs : List UInt8) (hcs : cs.length ≤ 1000) (want : Bool) (err : Nat) (hI : putI b (digB cs b.width) cs = want) (hE : putE b (digB cs b.width) cs = err) (hG : Glob w) (hk : k ≤ 1000000) :
    Calls Tryd.prog 31 #[.pointer (some ⟨s, 0, none⟩), .string (strB cs), .bool want, .int .i64 (err : Int)] w fun e w' => e = .returned (.bool true) ∧ ∃ F' k' f', StB w' F' s m k' (putB b (digB cs b.width) cs) f' ∧ k' ≤ k + 1 ∧ Chg F w w' ∧ ∀ x ∈ F', x ∈ F ∨ w.heap.size ≤ x := by
  have hz := (zero_of_info info26).1
  have HS := hid hs; have HG := hid hG
  have HL := digB_length cs b.width
  have ce : cutE (b.width : Int) = 0 := by rw [cutE, if_neg (by have := hs.ok.w1; have := hs.ok.w2; omega)]
  have HCE := hid ce
  clear hs hG ce
  go_enter Tryd.func31, Tryd.ntmps31
  go_wp2_with (refine wpList_text_bytes rfl 9 33 5 _ rfl Tryd.underlying9 Tryd.underlying33 Tryd.underlying5 cs rfl ?_; refine Held.go ?_)
  unfold Held
  intro w1 c1 hb1 _ hs1 hc1
  have HS1 := hid (HS.out.keep hb1); have HG1 := hid (HG.out.keep hb1); have HB1 := hid hb1; have HSB1 := hid hs1
  have HW := hid (width_calls HS1.out)
  clear hb1 hs1 HS HG
  go_wp2_with fail
  refine HW.out.mono ?_
  rintro _ _ ⟨rfl, rfl⟩
  have HO := hid (own_of_calls w1.heap.size cs.length c1 (some ⟨w.heap.size, 0, none⟩) cs (b.width : Int) w1 HSB1.out hc1 HG1.out (by omega))
  rw [HCE.out, show cutB (sha cs) (b.width : Int) = digB cs b.width from rfl] at HO
  generalize hdd : digB cs b.width = d at HL HO hI hE
  clear HW HSB1 hc1
  go_wp2_with fail
  refine HO.out.mono ?_
  rintro _ w2 ⟨rfl, b2⟩
  have HS2 := hid (HS1.out.keep b2); have HG2 := hid (HG1.out.keep b2); have HB2 := hid (HB1.out.trans (b2.mono HB1.out.size))
  have HSZ := hid (show (Tryd.prog.info? 32).map (·.size) = some (bcells d).size from by rw [bcells_size, HL]; kernel_rfl)
  have HZ3 := hid (show (bcells (zeroB 32)).size = (bcells d).size from by rw [bcells_size, bcells_size, HL]; rfl)
  obtain ⟨q1, q2⟩ := new_set w2 32 (bcells (zeroB 32)) (bcells d)
  have K3 := hid (Blk.new w2 32 (bcells (zeroB 32)))
  have K4 := hid q2; have HS4 := hid (HS2.out.keep q1); have HG4 := hid (HG2.out.keep q1); have HB4 := hid (HB2.out.trans (q1.mono HB2.out.size))
  clear b2 q1 q2 HO HS1 HG1 HB1 HS2 HG2 HB2
  go_wp2_with (first
    | (refine wpList_store_blk rfl 32 _ _ rfl w2.heap.size _ rfl rfl 32 _ K3.out HSZ.out HZ3.out (bcells_oneCell _) ?_)
    | (refine wpList_load_blk rfl 32 _ rfl w2.heap.size rfl 32 _ K4.out _ _ Tryd.underlying32 HSZ.out ?_)
    | (refine wpList_text_bytes rfl 9 33 5 _ rfl Tryd.underlying9 Tryd.underlying33 Tryd.underlying5 cs rfl ?_; refine Held.go ?_))
  unfold Held
  have hz4 : ((w2.alloc (.cells (bcells (zeroB 32)) 32)).setRow w2.heap.size (bcells d)).heap.size = w2.heap.size + 1 := by simp
  generalize (w2.alloc (.cells (bcells (zeroB 32)) 32)).setRow w2.heap.size (bcells d) = w4 at K4 HS4 HG4 HB4 hz4 ⊢
  intro w5 c5 hb5 _ hs5 hc5
  rw [← hz4] at hb5
  have HS5 := hid (HS4.out.keep hb5); have HG5 := hid (HG4.out.keep hb5); have HB5 := hid (HB4.out.trans (hb5.mono HB4.out.size))
  have HP := hid (put_calls HS5.out d HL (some ⟨w2.heap.size + 1, 0, none⟩) c5 cs hs5 hc5 (by omega) HG5.out hk)
  rw [hI, hE] at HP
  clear hb5 hs5 hc5 K3 K4 HS4 HG4 HB4 hz HSZ HZ3 HG5 HS5
  go_wp2_with fail
  refine HP.out.mono ?_
  rintro _ w6 ⟨rfl, F', k', f', p1, p2, p3, p4⟩
  have HEnd := hid (show ∃ F' k' f', StB w6 F' s m k' (putB b d cs) f' ∧ k' ≤ k + 1 ∧ Chg F w w6 ∧ ∀ x ∈ F', x ∈ F ∨ w.heap.size ≤ x from
    ⟨F', k', f', p1, p2, (Chg.of_below (L := F) HB5.out).trans p3 (fun x hx => .inl hx), fun x hx => (p4 x hx).imp (fun h => h) (fun h => Nat.le_trans HB5.out.size h)⟩)
  clear p1 p2 p3 p4 HP HB5
  go_wp2_with fail
  go_ret
  exact ⟨rfl, by rw [hdd]; exact HEnd.out⟩
end
end Go.Proofs.YtoogaapjdlhpbaaDoor
