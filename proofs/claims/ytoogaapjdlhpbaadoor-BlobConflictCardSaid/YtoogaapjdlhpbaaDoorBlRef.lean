/- Contracts of package blob: names, the other checks, refusal. -/
import Derived.Test.YtoogaapjdlhpbaaDoorBlCl
import Derived.Test.YtoogaapjdlhpbaaDoorNewSet
namespace Go.Proofs.YtoogaapjdlhpbaaDoor
open Go.RowKit Crc

/-- the digest of bytes, cut to a width -/
def digB (bs : List UInt8) (v : Nat) : List UInt8 := cutB (sha bs) (v : Int)
theorem digB_length (bs : List UInt8) (v : Nat) : (digB bs v).length = 32 := cutB_length _ _ (sha_length bs)
set_option maxRecDepth 20000 in
set_option maxHeartbeats 1000000 in
theorem names_calls (s : Nat) (wd : Nat) (rm us mv : Value) (id : List UInt8) (B n c : Nat) (A : Option Addr) (bs : List UInt8) (w : World) (hh : Blk w s 54 #[.pointer (some ⟨s, 0, none⟩), .int .i64 (wd : Int), rm, us, mv]) (h1 : 1 ≤ wd) (h2 : wd ≤ 32) (hl : id.length = 32)
    (hs : SB w B A n bs) (hc : n ≤ c) (hn : n ≤ 1099511627776) (hG : Glob w) :
    Calls Tryd.prog 60 #[.pointer (some ⟨s, 0, none⟩), .agg (bcells id), .slice A n c] w fun e w' => e = .returned (.bool (digB bs wd == id)) ∧ Below w.heap.size w w' := by
  have hz := (zero_of_info info26).1
  have K0 := hid (Blk.new w 32 (bcells id))
  have B0 := hid (below_new w (.cells (bcells id) 32))
  have HSZ := hid (show (Tryd.prog.info? 32).map (·.size) = some (bcells id).size from by rw [bcells_size, hl]; kernel_rfl)
  have HEQ := hid (show ∀ W, (Op.equalIn 10000 32 (.agg (bcells (digB bs wd))) (.agg (bcells id))).run Tryd.prog W = .ok (digB bs wd == id) W from fun W => run_equal_arr (P := Tryd.prog) 32 5 32 Tryd.underlying32 Tryd.underlying5 (by kernel_rfl) (digB bs wd) id (digB_length bs wd) hl W)
  have HO := hid (fun W (hb : Below w.heap.size w W) => own_of_calls B n c A bs (wd : Int) W (hs.keep hb) hc (hG.keep hb) hn)
  have ce : cutE (wd : Int) = 0 := by rw [cutE, if_neg (by omega)]
  rw [ce] at HO
  have HD := hid (digB_length bs wd)
  rw [show cutB (sha bs) (wd : Int) = digB bs wd from rfl] at HO
  generalize digB bs wd = D at HEQ HO HD ⊢
  have HZ2 := hid (show (Tryd.prog.info? 32).map (·.size) = some (bcells D).size from by rw [bcells_size, HD.out]; kernel_rfl)
  have HZ3 := hid (show (bcells (zeroB 32)).size = (bcells D).size from by rw [bcells_size, bcells_size, HD.out]; rfl)
  generalize hr : (D == id) = r at HEQ ⊢
  have c1 : (w.alloc (.cells (bcells id) 32)).cell? ⟨s, 1, none⟩ = some (.int .i64 (wd : Int)) := (hh.keep B0.out).cell 1 rfl
  clear hh hs hG ce hl hr
  go_enter Tryd.func60, Tryd.ntmps60
  go_wp2_with fail
  generalize w.alloc (.cells (bcells id) 32) = w1 at K0 B0 c1 ⊢
  refine (HO.out w1 B0.out).mono ?_
  rintro _ w2 ⟨rfl, b2⟩
  have K2 := hid (K0.out.keep b2)
  have B2 := hid (B0.out.trans (b2.mono B0.out.size))
  have K3 := hid (Blk.new w2 32 (bcells (zeroB 32)))
  have B3 := hid (below_new w2 (.cells (bcells (zeroB 32)) 32))
  obtain ⟨q1, q2⟩ := new_set w2 32 (bcells (zeroB 32)) (bcells D)
  have K4 := hid q2; have K5 := hid (K2.out.keep q1); have B5 := hid (B2.out.trans (q1.mono B2.out.size))
  have heq := HEQ.out
  clear b2 c1 K0 B0 HO q1 q2 K2 B2 B3
  go_wp2_with (first
    | (refine wpList_store_blk rfl 32 _ _ rfl w2.heap.size _ rfl rfl 32 _ K3.out HZ2.out HZ3.out (bcells_oneCell _) ?_)
    | (refine wpList_load_blk_g (by rfl) 32 (.tmp 7) rfl w2.heap.size rfl 32 _ K4.out _ _ Tryd.underlying32 HZ2.out ?_)
    | (refine wpList_load_blk_g (by rfl) 32 (.tmp 4) rfl w.heap.size rfl 32 _ K5.out _ _ Tryd.underlying32 HSZ.out ?_))
  go_ret
  exact ⟨rfl, B5.out⟩
end Go.Proofs.YtoogaapjdlhpbaaDoor
