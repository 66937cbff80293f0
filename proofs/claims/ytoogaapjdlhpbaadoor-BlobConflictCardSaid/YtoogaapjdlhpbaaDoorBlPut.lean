/- Contract of package blob: refusal. -/
import Derived.Test.YtoogaapjdlhpbaaDoorBlRef
import Derived.Shelf.Abstract
namespace Go.Proofs.YtoogaapjdlhpbaaDoor
open Go.RowKit Crc

def refFns (p0 p1 p2 : Nat) : List FnV :=
  [⟨56, #[], #[.pointer (some ⟨p0, 0, none⟩)]⟩, ⟨58, #[], #[.pointer (some ⟨p2, 0, none⟩)]⟩,
   ⟨59, #[], #[.pointer (some ⟨p0, 0, none⟩), .pointer (some ⟨p1, 0, none⟩), .pointer (some ⟨p2, 0, none⟩)]⟩,
   ⟨61, #[], #[.pointer (some ⟨p0, 0, none⟩), .pointer (some ⟨p1, 0, none⟩), .pointer (some ⟨p2, 0, none⟩)]⟩,
   ⟨63, #[], #[.pointer (some ⟨p0, 0, none⟩), .pointer (some ⟨p1, 0, none⟩), .pointer (some ⟨p2, 0, none⟩)]⟩]
theorem cl1_calls (b : Bool) (h : Value) (p0 : Nat) (w : World) (hv : Calls Tryd.prog 45 #[h] w fun e w' => e = .returned (.bool b) ∧ w = w') (h0 : w.cell? ⟨p0, 0, none⟩ = some h) :
    Calls Tryd.prog 56 #[.pointer (some ⟨p0, 0, none⟩)] w fun e w' => e = .returned (.int .i64 ((if b then 0 else 1 : Nat) : Int)) ∧ Below w.heap.size w w' := by
  have HU := hid (unless_calls b 1 w)
  have HV := hid hv
  clear hv
  generalize ((if b then 0 else 1 : Nat) : Int) = r at HU ⊢
  go_enter Tryd.func56, Tryd.ntmps56
  go_wp2_with fail
  refine HV.out.mono ?_
  rintro _ _ ⟨rfl, rfl⟩
  go_wp2_with fail
  refine HU.out.mono ?_
  rintro _ _ ⟨rfl, rfl⟩
  go_wp2_with fail
  go_ret
  exact ⟨rfl, Below.refl _ _⟩
theorem cl2_calls (A : Option Addr) (n c p2 : Nat) (w : World) (h2 : w.cell? ⟨p2, 0, none⟩ = some (.slice A n c)) :
    Calls Tryd.prog 58 #[.pointer (some ⟨p2, 0, none⟩)] w fun e w' => e = .returned (.int .i64 ((if decide ((n : Int) ≤ 4096) then 0 else 4 : Nat) : Int)) ∧ Below w.heap.size w w' := by
  have HU := hid (unless_calls (decide ((n : Int) ≤ 4096)) 4 w)
  generalize ((if decide ((n : Int) ≤ 4096) then 0 else 4 : Nat) : Int) = r at HU ⊢
  go_enter Tryd.func58, Tryd.ntmps58
  go_wp2_with fail
  refine HU.out.mono ?_
  rintro _ _ ⟨rfl, rfl⟩
  go_wp2_with fail
  go_ret
  exact ⟨rfl, Below.refl _ _⟩
set_option maxRecDepth 20000 in
theorem cl3_calls (s wd p0 p1 p2 : Nat) (rm us mv : Value) (id : List UInt8) (B n c : Nat) (A : Option Addr) (bs : List UInt8) (w : World) (hh : Blk w s 54 #[.pointer (some ⟨s, 0, none⟩), .int .i64 (wd : Int), rm, us, mv]) (h1 : 1 ≤ wd) (h2 : wd ≤ 32) (hl : id.length = 32)
    (hs : SB w B A n bs) (hc : n ≤ c) (hn : n ≤ 1099511627776) (hG : Glob w) (d0 : w.cell? ⟨p0, 0, none⟩ = some (.pointer (some ⟨s, 0, none⟩))) (d1 : Blk w p1 32 (bcells id)) (d2 : w.cell? ⟨p2, 0, none⟩ = some (.slice A n c)) :
    Calls Tryd.prog 59 #[.pointer (some ⟨p0, 0, none⟩), .pointer (some ⟨p1, 0, none⟩), .pointer (some ⟨p2, 0, none⟩)] w fun e w' => e = .returned (.int .i64 ((if (digB bs wd == id) then 0 else 8 : Nat) : Int)) ∧ Below w.heap.size w w' := by
  have HN := hid (names_calls s wd rm us mv id B n c A bs w hh h1 h2 hl hs hc hn hG)
  have HSZ := hid (show (Tryd.prog.info? 32).map (·.size) = some (bcells id).size from by rw [bcells_size, hl]; kernel_rfl)
  have HU := hid (fun W => unless_calls (digB bs wd == id) 8 W)
  have HD := hid d1
  clear hh hs hG d1
  generalize (digB bs wd == id) = b at HN HU ⊢
  generalize ((if b then 0 else 8 : Nat) : Int) = r at HU ⊢
  go_enter Tryd.func59, Tryd.ntmps59
  go_wp2_with (refine wpList_load_blk rfl 32 _ rfl p1 rfl 32 _ HD.out _ _ Tryd.underlying32 HSZ.out ?_)
  refine HN.out.mono ?_
  rintro _ w1 ⟨rfl, b1⟩
  go_wp2_with fail
  refine (HU.out w1).mono ?_
  rintro _ _ ⟨rfl, rfl⟩
  go_wp2_with fail
  go_ret
  exact ⟨rfl, b1⟩
/-- why bytes cannot be put -/
def e9 (b : BS) (id bs : List UInt8) : Nat := match lookB b.l id with | some x => (if (x == bs) then 0 else 9) | none => 0
def e10 (b : BS) (id bs : List UInt8) : Nat := match lookB b.l id with | some _ => 0 | none => (if decide ((bs.length : Int) ≤ (b.room : Int) - (usedB b.l : Int)) then 0 else 10)
def putErrs (b : BS) (id bs : List UInt8) : List Nat :=
  [0, if decide ((bs.length : Int) ≤ 4096) then 0 else 4, if (digB bs b.width == id) then 0 else 8, e9 b id bs, e10 b id bs]
def putE (b : BS) (id bs : List UInt8) : Nat := firstE (putErrs b id bs)
section
variable {w : World} {F : List Nat} {s m k : Nat} {b : BS} {f : List UInt8 → Option Nat}
theorem e9_calls (hs : StB w F s m k b f) (p0 p1 p2 : Nat) (id : List UInt8) (hl : id.length = 32) (A : Option Addr) (c : Nat) (bs : List UInt8) (hb : SB w w.heap.size A bs.length bs) (h0 : w.cell? ⟨p0, 0, none⟩ = some (.pointer (some ⟨s, 0, none⟩))) (h1 : Blk w p1 32 (bcells id)) (h2 : w.cell? ⟨p2, 0, none⟩ = some (.slice A bs.length c)) :
    Calls Tryd.prog 61 #[.pointer (some ⟨p0, 0, none⟩), .pointer (some ⟨p1, 0, none⟩), .pointer (some ⟨p2, 0, none⟩)] w fun e w' => e = .returned (.int .i64 ((e9 b id bs : Nat) : Int)) ∧ Below w.heap.size w w' := by
  have he := hs.each id hl
  unfold e9
  cases hf : f id with
  | none =>
    rw [hf] at he
    cases hx : lookB b.l id with
    | some x => rw [hx] at he; exact he.elim
    | none => exact cl4No_calls s m 0 k p0 p1 p2 _ _ _ f id A none bs.length c 0 [] [] w hs.hd h0 h1 h2 hs.mp hl hf 0 rfl
  | some g =>
    rw [hf] at he
    cases hx : lookB b.l id with
    | none => rw [hx] at he; exact he.elim
    | some x =>
      rw [hx] at he
      obtain ⟨Ax, cx, k1, k2, k3, k4, k5, k6⟩ := he
      exact cl4Yes_calls s m g k p0 p1 p2 _ _ _ f id A Ax bs.length c cx x bs w hs.hd h0 h1 h2 hs.mp hl hf (k1.cell 0 rfl) k2 hb _ rfl
theorem e10_calls (hs : StB w F s m k b f) (p0 p1 p2 : Nat) (id : List UInt8) (hl : id.length = 32) (A : Option Addr) (c : Nat) (bs : List UInt8) (h0 : w.cell? ⟨p0, 0, none⟩ = some (.pointer (some ⟨s, 0, none⟩))) (h1 : Blk w p1 32 (bcells id)) (h2 : w.cell? ⟨p2, 0, none⟩ = some (.slice A bs.length c)) :
    Calls Tryd.prog 63 #[.pointer (some ⟨p0, 0, none⟩), .pointer (some ⟨p1, 0, none⟩), .pointer (some ⟨p2, 0, none⟩)] w fun e w' => e = .returned (.int .i64 ((e10 b id bs : Nat) : Int)) ∧ Below w.heap.size w w' := by
  have he := hs.each id hl
  have hw : IntKind.i64.wrap ((b.room : Int) - (usedB b.l : Int)) = (b.room : Int) - (usedB b.l : Int) := by
    have h1 := hs.ok.used
    have h2 := hs.ok.r
    exact IntWalk.i64_in _ (by omega)
  unfold e10
  cases hf : f id with
  | none =>
    rw [hf] at he
    cases hx : lookB b.l id with
    | some x => rw [hx] at he; exact he.elim
    | none => exact cl5No_calls s m 0 k p0 p1 p2 _ _ _ f id A bs.length c w hs.hd h0 h1 h2 hs.mp hl hf _ rfl hw
  | some g =>
    rw [hf] at he
    cases hx : lookB b.l id with
    | none => rw [hx] at he; exact he.elim
    | some x => exact cl5Yes_calls s m g k p0 p1 p2 _ _ _ f id A bs.length c w hs.hd h0 h1 h2 hs.mp hl hf 0 rfl hw
theorem ref_do (hs : StB w F s m k b f) (p0 p1 p2 br : Nat) (id : List UInt8) (hl : id.length = 32) (A : Option Addr) (c : Nat) (bs : List UInt8) (hb : SB w w.heap.size A bs.length bs) (hc : bs.length ≤ c) (hn : bs.length ≤ 1099511627776) (hG : Glob w) (h0 : w.cell? ⟨p0, 0, none⟩ = some (.pointer (some ⟨s, 0, none⟩))) (h1 : Blk w p1 32 (bcells id)) (h2 : w.cell? ⟨p2, 0, none⟩ = some (.slice A bs.length c))
    (hr : Blk w br 96 ((refFns p0 p1 p2).map fnV).toArray) :
    Calls Tryd.prog 55 #[.slice (some ⟨br, 0, none⟩) 5 5] w fun e w' => e = .returned (.int .i64 ((putE b id bs : Nat) : Int)) ∧ Below w.heap.size w w' := by
  refine first_calls (putErrs b id bs) (refFns p0 p1 p2) br 5 5 w rfl rfl (by omega) (fun j v hv => hr.cell j (by simpa [List.getElem?_map] using ⟨v, hv, rfl⟩)) (fun j e v he hv hj => ?_)
  match j with
  | 0 =>
    cases he; cases hv
    exact ⟨enters_of Tryd.func56 (by kernel_rfl) rfl, fun W hW => Calls.mono (cl1_calls true _ p0 W (bvalid_calls s _ _ _ _ W (hs.keep hW).hd) (cell_keep h0 hW)) fun _ _ h => ⟨h.1, hW.trans (h.2.mono hW.size)⟩⟩
  | 1 =>
    cases he; cases hv
    exact ⟨enters_of Tryd.func58 (by kernel_rfl) rfl, fun W hW => Calls.mono (cl2_calls A bs.length c p2 W (cell_keep h2 hW)) fun _ _ h => ⟨h.1, hW.trans (h.2.mono hW.size)⟩⟩
  | 2 =>
    cases he; cases hv
    exact ⟨enters_of Tryd.func59 (by kernel_rfl) rfl, fun W hW => Calls.mono (cl3_calls s b.width p0 p1 p2 _ _ _ id w.heap.size bs.length c A bs W (hs.keep hW).hd hs.ok.w1 hs.ok.w2 hl (hb.keepB hW) hc hn (hG.keep hW) (cell_keep h0 hW) (h1.keep hW) (cell_keep h2 hW)) fun _ _ h => ⟨h.1, hW.trans (h.2.mono hW.size)⟩⟩
  | 3 =>
    cases he; cases hv
    exact ⟨enters_of Tryd.func61 (by kernel_rfl) rfl, fun W hW => Calls.mono (e9_calls (hs.keep hW) p0 p1 p2 id hl A c bs (hb.keep hW).fit (cell_keep h0 hW) (h1.keep hW) (cell_keep h2 hW)) fun _ _ h => ⟨h.1, hW.trans (h.2.mono hW.size)⟩⟩
  | 4 =>
    cases he; cases hv
    exact ⟨enters_of Tryd.func63 (by kernel_rfl) rfl, fun W hW => Calls.mono (e10_calls (hs.keep hW) p0 p1 p2 id hl A c bs (cell_keep h0 hW) (h1.keep hW) (cell_keep h2 hW)) fun _ _ h => ⟨h.1, hW.trans (h.2.mono hW.size)⟩⟩
  | j + 5 => cases he
set_option maxRecDepth 20000 in
set_option maxHeartbeats 1000000 in
theorem refusal_calls (hs : StB w F s m k b f) (id : List UInt8) (hl : id.length = 32) (A : Option Addr) (c : Nat) (bs : List UInt8) (hb : SB w w.heap.size A bs.length bs) (hc : bs.length ≤ c) (hn : bs.length ≤ 1099511627776) (hG : Glob w) :
    Calls Tryd.prog 41 #[.pointer (some ⟨s, 0, none⟩), .agg (bcells id), .slice A bs.length c] w fun e w' => e = .returned (.int .i64 ((putE b id bs : Nat) : Int)) ∧ Below w.heap.size w w' := by
  obtain ⟨W, hW, k0, k1, k2, kr, hB⟩ : ∃ W, ((((w.alloc (.cells #[.pointer (some ⟨s, 0, none⟩)] 23)).alloc (.cells (bcells id) 32)).alloc (.cells #[.slice A bs.length c] 33)).alloc (.cells ((refFns w.heap.size (w.heap.size + 1) (w.heap.size + 1 + 1)).map fnV).toArray 96)) = W ∧
      Blk W w.heap.size 23 #[.pointer (some ⟨s, 0, none⟩)] ∧ Blk W (w.heap.size + 1) 32 (bcells id) ∧ Blk W (w.heap.size + 1 + 1) 33 #[.slice A bs.length c] ∧ Blk W (w.heap.size + 1 + 1 + 1) 96 ((refFns w.heap.size (w.heap.size + 1) (w.heap.size + 1 + 1)).map fnV).toArray ∧ Below w.heap.size w W := by
    have a1 := Blk.new w 23 #[.pointer (some ⟨s, 0, none⟩)]
    have z1 := size_new w (.cells #[.pointer (some ⟨s, 0, none⟩)] 23)
    have q1 := below_new w (.cells #[.pointer (some ⟨s, 0, none⟩)] 23)
    generalize w.alloc (.cells #[.pointer (some ⟨s, 0, none⟩)] 23) = w1 at a1 z1 q1 ⊢
    have a2 := Blk.new w1 32 (bcells id)
    have z2 := size_new w1 (.cells (bcells id) 32)
    have q2 := below_new w1 (.cells (bcells id) 32)
    rw [z1] at a2
    generalize w1.alloc (.cells (bcells id) 32) = w2 at a2 z2 q2 ⊢
    have a3 := Blk.new w2 33 #[.slice A bs.length c]
    have z3 := size_new w2 (.cells #[.slice A bs.length c] 33)
    have q3 := below_new w2 (.cells #[.slice A bs.length c] 33)
    rw [z2, z1] at a3
    generalize w2.alloc (.cells #[.slice A bs.length c] 33) = w3 at a3 z3 q3 ⊢
    have a4 := Blk.new w3 96 ((refFns w.heap.size (w.heap.size + 1) (w.heap.size + 1 + 1)).map fnV).toArray
    have q4 := below_new w3 (.cells ((refFns w.heap.size (w.heap.size + 1) (w.heap.size + 1 + 1)).map fnV).toArray 96)
    rw [z3, z2, z1] at a4
    have b2 := q1.trans (q2.mono q1.size)
    have b3 := b2.trans (q3.mono b2.size)
    exact ⟨_, rfl, ((a1.keep q2).keep q3).keep q4, (a2.keep q3).keep q4, a3.keep q4, a4, b3.trans (q4.mono b3.size)⟩
  have HDO := hid (ref_do (hs.keep hB) w.heap.size (w.heap.size + 1) (w.heap.size + 1 + 1) (w.heap.size + 1 + 1 + 1) id hl A c bs (hb.keep hB).fit hc hn (hG.keep hB) (k0.cell 0 rfl) k1 (k2.cell 0 rfl) kr)
  have HB := hid hB
  rw [← hW] at HDO HB
  clear hW k0 k1 k2 kr hB hs hb hG
  generalize hP : putE b id bs = P at HDO ⊢
  clear hP
  go_enter Tryd.func41, Tryd.ntmps41
  go_wp2_with fail
  have hdo : Calls Tryd.prog 55 #[.slice (some ⟨w.heap.size + 1 + 1 + 1, 0, none⟩) 5 5] _ _ := HDO.out
  refine hdo.mono ?_
  rintro _ w2 ⟨rfl, hp⟩
  have HP := hid (HB.out.trans (hp.mono HB.out.size))
  clear hp HDO HB hdo
  go_wp2_with fail
  go_ret
  exact ⟨rfl, HP.out⟩
end
end Go.Proofs.YtoogaapjdlhpbaaDoor
