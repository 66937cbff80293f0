/- The law WireReads, walked. Written by tools/mkrdw.py. -/
import Derived.Test.YtcpkjpeimnaimaaWrThs
import Derived.Test.YtcpkjpeimnaimaaWrRefRv
import Derived.Test.YtcpkjpeimnaimaaWrKnown
import Derived.Test.YtcpkjpeimnaimaaAppS
namespace Go.Proofs.Ytcpkjpeimnaimaa
open Go.RowKit

/-- a reader of the program's beside one of the plain reference, of the same bytes -/
structure RI (w : World) (base g f : Nat) (rr : Option Nat) (gx c : Nat) (A : Option Addr) (bs : List UInt8) (s1 s2 : RS) (W : World) : Prop where
  rd : RdB W base g f rr bs s1
  rf : RfB W gx w.heap.size c A bs s2
  ne : gx ∉ fpw g f rr
  bel : Below w.heap.size w W
  hb : w.heap.size ≤ base
section
variable {w W W' : World} {base g f : Nat} {rr : Option Nat} {gx c : Nat} {A : Option Addr} {bs : List UInt8} {s1 s2 s' : RS} {L : List Nat}
theorem RI.gfx (h : RI w base g f rr gx c A bs s1 s2 W) : base ≤ g ∧ base ≤ f ∧ w.heap.size ≤ gx ∧ gx ≠ g ∧ gx ≠ f := by
  have h1 := h.rd.fp_lt g (by rw [mem_fpw]; exact .inr (.inl rfl))
  have h2 := h.rd.fp_lt f (by rw [mem_fpw]; exact .inl rfl)
  exact ⟨h1.1, h2.1, h.rf.hB, fun e => h.ne (by rw [mem_fpw]; exact .inr (.inl e)), fun e => h.ne (by rw [mem_fpw]; exact .inl e)⟩
theorem RI.read (h : RI w base g f rr gx c A bs s1 s2 W) (hp : RdPost W base g f rr bs s' W') : RI w base g f rr gx c A bs s' s2 W' := by
  obtain ⟨h1, h2, h3, h4, h5⟩ := h.gfx
  have hb := h.hb
  exact ⟨hp.1, h.rf.chg hp.2 (by simp; omega) (fun b hb' hm => by simp at hm; omega), h.ne, h.bel.trans (hp.2.below (fun b hm => by simp at hm; omega) h.bel.size), h.hb⟩
theorem RI.reff (h : RI w base g f rr gx c A bs s1 s2 W) (hp : RfP W gx w.heap.size c A bs s' W') : RI w base g f rr gx c A bs s1 s' W' := by
  obtain ⟨h1, h2, h3, h4, h5⟩ := h.gfx
  exact ⟨h.rd.chg hp.2 (fun b hb hm => by simp at hm; subst hm; exact h.ne hb), hp.1, h.ne, h.bel.trans (hp.2.below (fun b hm => by simp at hm; omega) h.bel.size), h.hb⟩
theorem RI.high (h : RI w base g f rr gx c A bs s1 s2 W) (hc : Chg L W W') (h1 : ∀ b ∈ L, w.heap.size ≤ b ∧ b ≠ gx ∧ b ∉ fpw g f rr) : RI w base g f rr gx c A bs s1 s2 W' :=
  ⟨h.rd.chg hc (fun b hb hm => (h1 b hm).2.2 hb), h.rf.chg hc (fun hm => (h1 _ hm).2.1 rfl) (fun b hb hm => by have := (h1 b hm).1; omega), h.ne, h.bel.trans (hc.below (fun b hm => (h1 b hm).1) h.bel.size), h.hb⟩
theorem RI.keep (h : RI w base g f rr gx c A bs s1 s2 W) (hb : Below W.heap.size W W') : RI w base g f rr gx c A bs s1 s2 W' := h.high (L := []) (Chg.of_below hb) (by simp)
end
/-- and a thing in its variable -/
structure RT (w : World) (base g f : Nat) (rr : Option Nat) (gx c : Nat) (A : Option Addr) (bs : List UInt8) (T : Nat) (cs : Array Value) (s1 s2 : RS) (W : World) : Prop where
  ri : RI w base g f rr gx c A bs s1 s2 W
  tb : Blk W T 38 cs
  lt : ∀ b ∈ fpw g f rr, b < T
  gl : gx < T
section
variable {w W W' : World} {base g f : Nat} {rr : Option Nat} {gx c : Nat} {A : Option Addr} {bs : List UInt8} {T : Nat} {cs : Array Value} {s1 s2 s' : RS} {L : List Nat}
theorem RT.gf (h : RT w base g f rr gx c A bs T cs s1 s2 W) : g < T ∧ f < T := ⟨h.lt g (by rw [mem_fpw]; exact .inr (.inl rfl)), h.lt f (by rw [mem_fpw]; exact .inl rfl)⟩
theorem RT.read (h : RT w base g f rr gx c A bs T cs s1 s2 W) (hp : RdPost W base g f rr bs s' W') : RT w base g f rr gx c A bs T cs s' s2 W' :=
  ⟨h.ri.read hp, h.tb.chg hp.2 (by have := h.gf; simp; omega), h.lt, h.gl⟩
theorem RT.reff (h : RT w base g f rr gx c A bs T cs s1 s2 W) (hp : RfP W gx w.heap.size c A bs s' W') : RT w base g f rr gx c A bs T cs s1 s' W' :=
  ⟨h.ri.reff hp, h.tb.chg hp.2 (by have := h.gl; simp; omega), h.lt, h.gl⟩
theorem RT.high (h : RT w base g f rr gx c A bs T cs s1 s2 W) (hc : Chg L W W') (h1 : ∀ b ∈ L, T < b) : RT w base g f rr gx c A bs T cs s1 s2 W' :=
  ⟨h.ri.high hc (fun b hm => ⟨by have := h1 b hm; have := h.gl; have := h.ri.gfx; omega, by have := h1 b hm; have := h.gl; omega, fun hb => by have := h1 b hm; have := h.lt b hb; omega⟩), h.tb.chg hc (fun hm => by have := h1 _ hm; omega), h.lt, h.gl⟩
theorem RT.keep (h : RT w base g f rr gx c A bs T cs s1 s2 W) (hb : Below W.heap.size W W') : RT w base g f rr gx c A bs T cs s1 s2 W' := h.high (L := []) (Chg.of_below hb) (by simp)
theorem RT.drew (h : RT w base g f rr gx c A bs T cs s1 s2 W) : RT w base g f rr gx c A bs T cs s1 s2 W.drew := h.keep (Below.refl _ _).drew
theorem RT.tl (h : RT w base g f rr gx c A bs T cs s1 s2 W) : T < W.heap.size := h.tb.lt
end
theorem refEndB (g B c : Nat) (A : Option Addr) (bs : List UInt8) (s : RS) (w : World) (h : RfB w g B c A bs s) :
    Calls Try.prog 54 #[.pointer (some ⟨g, 0, none⟩)] w fun e w' => e = .returned (.agg #[.int .i64 ((endS bs s).1 : Int), .int .i64 ((endS bs s).2 : Int)]) ∧ Below w.heap.size w w' := by
  obtain ⟨⟨a, h⟩, -⟩ := h
  exact refEnd_calls g B bs.length c A bs a s w h
theorem refRestB (g B c : Nat) (A : Option Addr) (bs : List UInt8) (s : RS) (w : World) (h : RfB w g B c A bs s) :
    Calls Try.prog 52 #[.pointer (some ⟨g, 0, none⟩)] w fun e w' => e = .returned (.int .i64 (restS bs s : Int)) ∧ Below w.heap.size w w' := by
  obtain ⟨⟨a, h⟩, -⟩ := h
  exact refRest_calls g B bs.length c A bs a s w h
/-- two calls of texts in a drawn region -/
structure TxS (w : World) (base g f : Nat) (rr : Option Nat) (gx c : Nat) (A : Option Addr) (bs : List UInt8) (T : Nat) (cs : Array Value) (s SN : RS) (fd : Nat → Bool) (_gh : Nat → Unit) (W : World) : Prop where
  rt : RT w base g f rr gx c A bs T cs (if fd 3 = true then SN else s) (if fd 7 = true then SN else s) W
section
variable {w W W' : World} {base g f : Nat} {rr : Option Nat} {gx c : Nat} {A : Option Addr} {bs : List UInt8} {T : Nat} {cs : Array Value} {s SN : RS} {fd : Nat → Bool} {gh gh' : Nat → Unit}
theorem TxS.step (h : TxS w base g f rr gx c A bs T cs s SN fd gh W) (i : Nat) (h3 : 3 ≠ i) (h7 : 7 ≠ i) : TxS w base g f rr gx c A bs T cs s SN (upd fd i) gh' W := ⟨by rw [ap_ne h3, ap_ne h7]; exact h.rt⟩
theorem TxS.pre3 (h : TxS w base g f rr gx c A bs T cs s SN fd gh W) (h3 : fd 3 = false) : RdB W base g f rr bs s := by have := h.rt.ri.rd; rwa [if_neg (by rw [h3]; decide)] at this
theorem TxS.pre7 (h : TxS w base g f rr gx c A bs T cs s SN fd gh W) (h7 : fd 7 = false) : RfB W gx w.heap.size c A bs s := by have := h.rt.ri.rf; rwa [if_neg (by rw [h7]; decide)] at this
theorem TxS.s3 (h : TxS w base g f rr gx c A bs T cs s SN fd gh W) (_h3 : fd 3 = false) (hp : RdPost W base g f rr bs SN W') : TxS w base g f rr gx c A bs T cs s SN (upd fd 3) gh' W' := ⟨by rw [ap_eq, ap_ne (by decide), if_pos rfl]; exact h.rt.read hp⟩
theorem TxS.s7 (h : TxS w base g f rr gx c A bs T cs s SN fd gh W) (_h7 : fd 7 = false) (hp : RfP W gx w.heap.size c A bs SN W') : TxS w base g f rr gx c A bs T cs s SN (upd fd 7) gh' W' := ⟨by rw [ap_eq, ap_ne (by decide), if_pos rfl]; exact h.rt.reff hp⟩
theorem TxS.fin (h : TxS w base g f rr gx c A bs T cs s SN fd gh W) (h3 : fd 3 = true := by rfl) (h7 : fd 7 = true := by rfl) : RT w base g f rr gx c A bs T cs SN SN W := by have := h.rt; rwa [if_pos h3, if_pos h7] at this
end
/-- two calls of vectors in a drawn region -/
structure VcS (w0 w : World) (base g f : Nat) (rr : Option Nat) (gx c : Nat) (A : Option Addr) (bs : List UInt8) (T : Nat) (cs : Array Value) (s SN : RS) (zs : List Int) (fd : Nat → Bool) (gh : Nat → Value) (W : World) : Prop where
  rt : RT w base g f rr gx c A bs T cs (if fd 3 = true then SN else s) (if fd 7 = true then SN else s) W
  tl : T < w0.heap.size
  o3 : fd 3 = true → OwnI W w0.heap.size (gh 3) zs
  o7 : fd 7 = true → OwnI W w0.heap.size (gh 7) zs
  sz : w0.heap.size ≤ W.heap.size
theorem OwnI.lower {w : World} {base base' : Nat} {v : Value} {zs : List Int} (h : OwnI w base v zs) (hb : base' ≤ base) : OwnI w base' v zs := by
  rcases h with ⟨h1, h2 | ⟨g', cap, cur, rfl, hb', hlt, r⟩⟩
  · exact ⟨h1, .inl h2⟩
  · exact ⟨h1, .inr ⟨g', cap, cur, rfl, by omega, hlt, r⟩⟩
section
variable {w0 w W W' : World} {base g f : Nat} {rr : Option Nat} {gx c : Nat} {A : Option Addr} {bs : List UInt8} {T : Nat} {cs : Array Value} {s SN : RS} {zs : List Int} {fd : Nat → Bool} {gh : Nat → Value}
theorem VcS.step (h : VcS w0 w base g f rr gx c A bs T cs s SN zs fd gh W) (i : Nat) (k : Value) (h3 : 3 ≠ i) (h7 : 7 ≠ i) : VcS w0 w base g f rr gx c A bs T cs s SN zs (upd fd i) (updN gh i k) W :=
  ⟨by rw [ap_ne h3, ap_ne h7]; exact h.rt, h.tl, by rw [ap_ne h3, apN_ne h3]; exact h.o3, by rw [ap_ne h7, apN_ne h7]; exact h.o7, h.sz⟩
theorem VcS.pre3 (h : VcS w0 w base g f rr gx c A bs T cs s SN zs fd gh W) (h3 : fd 3 = false) : RdB W base g f rr bs s := by have := h.rt.ri.rd; rwa [if_neg (by rw [h3]; decide)] at this
theorem VcS.pre7 (h : VcS w0 w base g f rr gx c A bs T cs s SN zs fd gh W) (h7 : fd 7 = false) : RfB W gx w.heap.size c A bs s := by have := h.rt.ri.rf; rwa [if_neg (by rw [h7]; decide)] at this
theorem VcS.s3 {v : Value} (h : VcS w0 w base g f rr gx c A bs T cs s SN zs fd gh W) (_h3 : fd 3 = false) (ho : OwnI W' W.heap.size v zs) (hp : RdPost W base g f rr bs SN W') : VcS w0 w base g f rr gx c A bs T cs s SN zs (upd fd 3) (updN gh 3 v) W' :=
  ⟨by rw [ap_eq, ap_ne (by decide), if_pos rfl]; exact h.rt.read hp, h.tl, fun _ => by rw [apN_eq]; exact ho.lower h.sz, fun e => by
    rw [ap_ne (by decide)] at e
    rw [apN_ne (by decide)]
    exact (h.o7 e).chg hp.2 (fun b hm => by have := h.rt.gf; have := h.tl; simp at hm; omega), Nat.le_trans h.sz hp.2.size⟩
theorem VcS.s7 {v : Value} (h : VcS w0 w base g f rr gx c A bs T cs s SN zs fd gh W) (_h7 : fd 7 = false) (ho : OwnI W' W.heap.size v zs) (hp : RfP W gx w.heap.size c A bs SN W') : VcS w0 w base g f rr gx c A bs T cs s SN zs (upd fd 7) (updN gh 7 v) W' :=
  ⟨by rw [ap_eq, ap_ne (by decide), if_pos rfl]; exact h.rt.reff hp, h.tl, fun e => by
    rw [ap_ne (by decide)] at e
    rw [apN_ne (by decide)]
    exact (h.o3 e).chg hp.2 (fun b hm => by have := h.rt.gl; have := h.tl; simp at hm; omega), fun _ => by rw [apN_eq]; exact ho.lower h.sz, Nat.le_trans h.sz hp.2.size⟩
theorem VcS.s8 {k : Value} (h : VcS w0 w base g f rr gx c A bs T cs s SN zs fd gh W) (hb : Below W.heap.size W W') : VcS w0 w base g f rr gx c A bs T cs s SN zs (upd fd 8) (updN gh 8 k) W' :=
  ⟨by rw [ap_ne (by decide), ap_ne (by decide)]; exact h.rt.keep hb, h.tl, by rw [ap_ne (by decide), apN_ne (by decide)]; exact fun e => (h.o3 e).keep hb, by rw [ap_ne (by decide), apN_ne (by decide)]; exact fun e => (h.o7 e).keep hb, Nat.le_trans h.sz hb.size⟩
theorem VcS.fin (h : VcS w0 w base g f rr gx c A bs T cs s SN zs fd gh W) (h3 : fd 3 = true := by rfl) (h7 : fd 7 = true := by rfl) : RT w base g f rr gx c A bs T cs SN SN W := by have := h.rt; rwa [if_pos h3, if_pos h7] at this
end
theorem idS_length' (bs : List UInt8) (s : RS) : (idS bs s).1.length = 32 := by
  cases s with
  | ok a => exact fill32_length _
  | bad e p => rfl
theorem RdB.len {w : World} {base g f : Nat} {r : Option Nat} {bs : List UInt8} {s : RS} (h : RdB w base g f r bs s) : bs.length ≤ 549755813888 := by
  obtain ⟨_, _, _, _, _, _, _, _, _, _, _, hbl, _⟩ := take_lent h
  exact hbl
theorem vecLoop_take (bs : List UInt8) : ∀ (n : Nat) (acc : List Int) (s : RS), s.good bs.length → (vecLoop bs n acc s).1.length ≤ acc.length + restS bs s := by
  intro n
  induction n with
  | zero => intro acc s _; exact Nat.le_add_right _ _
  | succ n ih =>
    intro acc s hg
    simp only [vecLoop]
    split
    · rename_i h0
      cases s with
      | bad e p => exact absurd h0 hg.1
      | ok a =>
        have hal : a ≤ bs.length := hg
        obtain ⟨a', e1, e2, e3⟩ := numS_step (bs := bs) (most := maxI) (above := 0) (a := a) hal h0 (.inr (by simp [maxI]))
        have h := ih (acc ++ [((numS bs maxI 0 (.ok a)).1 : Int)]) (numS bs maxI 0 (.ok a)).2 (by rw [e1]; exact e3)
        rw [e1] at h ⊢
        have h1 : restS bs (.ok a') = bs.length - a' := rfl
        have h2 : restS bs (.ok a) = bs.length - a := rfl
        rw [List.length_append, List.length_singleton] at h
        omega
    · exact Nat.zero_le _
theorem vecS_len (bs : List UInt8) (most : Int) (s : RS) (hg : s.good bs.length) (hl : bs.length ≤ 549755813888) : (vecS bs most s).1.length ≤ 549755813888 := by
  have h := vecLoop_take bs (numS bs most 4 s).1 [] (numS bs most 4 s).2 (numS_good bs most 4 s (.inl (by omega)) hg)
  have h1 : restS bs (numS bs most 4 s).2 ≤ bs.length := by
    cases (numS bs most 4 s).2 with
    | ok a => show bs.length - a ≤ _; omega
    | bad e p => exact Nat.zero_le _
  have h2 : vecS bs most s = vecLoop bs (numS bs most 4 s).1 [] (numS bs most 4 s).2 := rfl
  rw [h2]
  simp only [List.length_nil] at h
  omega
theorem size_th {t : Th} (h : t.id.length = 32) : (Try.prog.info? 38).map (·.size) = some (TV t).size := by rw [TV_size h]; kernel_rfl
def rdtVal (g gx T : Nat) (most : Int) (st : ByteArray) : Nat → Unit → Value
  | 0, _ => .pointer (some ⟨g, 0, none⟩)
  | 1, _ => .pointer (some ⟨T, 1, none⟩)
  | 2, _ => .int .i64 most
  | 3, _ => .string st
  | 4, _ => .pointer (some ⟨gx, 0, none⟩)
  | 5, _ => .pointer (some ⟨T, 1, none⟩)
  | 6, _ => .int .i64 most
  | 7, _ => .string st
  | 8, _ => .bool true
  | 9, _ => .bool true
  | _, _ => undef
def rdvVal (g gx T : Nat) (most : Int) : Nat → Value → Value
  | 0, _ => .pointer (some ⟨g, 0, none⟩)
  | 1, _ => .pointer (some ⟨T, 1, none⟩)
  | 2, _ => .int .i64 most
  | 3, k => k
  | 4, _ => .pointer (some ⟨gx, 0, none⟩)
  | 5, _ => .pointer (some ⟨T, 1, none⟩)
  | 6, _ => .int .i64 most
  | 7, k => k
  | 8, _ => .bool true
  | 9, _ => .bool true
  | _, _ => undef
set_option maxRecDepth 20000 in
set_option maxHeartbeats 4000000 in
theorem wreads_calls (B n c n2 c2 : Nat) (A A2 : Option Addr) (bs : List UInt8) (ts : List Th) (w : World) (hs : SB w B A n bs) (hnc : n ≤ c) (h : THS w A2 n2 ts) (hn2 : n2 ≤ 9223372036854775807) :
    Calls Try.prog 4 #[.slice A n c, .slice A2 n2 c2] w fun e w' => e = .returned (.bool true) ∧ Below w.heap.size w w' := by
  have HAW := hid (fun W => awake_calls W)
  by_cases hlong : 300 < n
  · have hl' : (300 : Int) < (n : Int) := by omega
    clear hs h
    go_enter Try.func4, Try.ntmps4
    go_wp2_with fail
    refine (HAW.out w).mono ?_
    rintro _ w1 ⟨rfl, hb1⟩
    have HB1 := hid hb1
    clear hb1 HAW
    go_wp2_with fail
    go_ret
    exact ⟨rfl, HB1.out⟩
  have hl' : ¬ (300 : Int) < (n : Int) := by omega
  have HLG := hid (long_calls n2 c2 A2 ts w h hn2)
  have HTH := hid h
  have HLB := hid (lentOwn_calls w.heap.size n c A bs w hs.fit (by omega))
  have HSB := hid hs.fit
  have HLN := hid hs.1
  have HN := hid (show n ≤ 300 ∧ n ≤ c from ⟨by omega, hnc⟩)
  clear hs hnc hlong h
  cases hlg : longV ts with
  | true =>
    rw [hlg] at HLG
    go_enter Try.func4, Try.ntmps4
    go_wp2_with fail
    refine HLG.out.mono ?_
    rintro _ _ ⟨rfl, rfl⟩
    go_wp2_with fail
    refine (HAW.out w).mono ?_
    rintro _ w1 ⟨rfl, hb1⟩
    have HB1 := hid hb1
    clear hb1 HAW
    go_wp2_with fail
    go_ret
    exact ⟨rfl, HB1.out⟩
  | false =>
  rw [hlg] at HLG
  have HLF := hid hlg
  have HN2 := hid (show n2 ≤ 30 from by have := long30 hlg; have := HTH.out.len; omega)
  have hnI : (n2 : Int) ≤ 30 := by have := HN2.out; omega
  clear hlg hn2
  go_enter Try.func4, Try.ntmps4
  go_wp2_with fail
  refine HLG.out.mono ?_
  rintro _ _ ⟨rfl, rfl⟩
  clear HLG
  go_wp2_with fail
  refine HLB.out.mono ?_
  rintro _ w1 ⟨A', c', rfl, hcc, hsl, hown, hb1⟩
  have HSL := hid hsl; have HOW := hid hown; have HCC := hid hcc; have HB1 := hid hb1
  have HNR := hid (newReader_calls w1.heap.size n c' A' bs w1 (by
    have h := hsl.take n (by omega)
    have hl := HLN.out
    rw [List.take_append_of_le_length (by omega), List.take_of_length_le (by omega)] at h
    exact h) (by have := HN.out.1; omega))
  clear hsl hown hcc hb1 HLB
  go_wp2_with fail
  refine HNR.out.mono ?_
  rintro _ w2 ⟨g, f, rr, rfl, hrd, hb2⟩
  have HRD := hid hrd; have HB2 := hid hb2
  clear hrd hb2 HNR
  go_wp2_with fail
  have hb3 := below_new w2 (.cells #[.slice A n c, .int .i64 0, .int .i64 0, .int .i64 0] 63)
  have hk3 := Blk.new w2 63 #[.slice A n c, .int .i64 0, .int .i64 0, .int .i64 0]
  generalize w2.alloc (.cells #[.slice A n c, .int .i64 0, .int .i64 0, .int .i64 0] 63) = w3 at hb3 hk3 ⊢
  have HGX := hid (show w1.heap.size ≤ w2.heap.size from HB2.out.size)
  have HB13 := hid (HB2.out.trans (hb3.mono HB2.out.size))
  have HBW := hid (HB1.out.trans (HB13.out.mono HB1.out.size))
  have HRI := hid (show RI w w1.heap.size g f rr w2.heap.size c A bs (.ok 0) (.ok 0) w3 from by
    have hlen := HLN.out
    subst hlen
    exact ⟨HRD.out.keep hb3, ⟨⟨0, hk3, HSB.out.keepB HBW.out, by have := HB1.out.size; have := HB2.out.size; omega, Nat.zero_le _, by have := HN.out.1; omega, Nat.zero_le _, fun a' e => by cases e; rfl⟩, HN.out.2⟩, fun hm => by have := (HRD.out.fp_lt _ hm).2; omega, HBW.out, HB1.out.size⟩)
  have HSL3 := hid (HSL.out.keep HB13.out)
  have HKB := hid (keptBytes_calls w1.heap.size n c' w.heap.size c A' A bs w3 HSL3.out (HSB.out.keepB HBW.out) (by have := HN.out.1; omega) HCC.out)
  clear hb3 hk3 HRD HB2
  generalize w2.heap.size = gx at HRI HGX ⊢
  refine HKB.out.mono ?_
  rintro _ w4 ⟨rfl, hb4⟩
  have HRI4 := hid (HRI.out.keep hb4)
  have HOW4 := hid (HOW.out.keep (HB13.out.trans (hb4.mono HB13.out.size)))
  have hob := World.ownsRow.lt HOW.out
  clear hb4 HKB HRI
  go_wp2_with fail
  refine (overBytes_calls w.heap.size n c' A' bs w4 HOW4.out (by have := HN.out.1; omega)).mono ?_
  rintro _ w5 ⟨rfl, hg5⟩
  have HRI5 := hid (HRI4.out.high (Chg.of_grown (L := (Value.slice A' n c').ownBlock.toList) hg5 (fun b e => by rw [e]; simp)) (fun b hm => by
    have h1 : (Value.slice A' n c').ownBlock = some b := by simpa using hm
    have h2 := hob b h1
    have h3 := HRI4.out.gfx
    have h4 := HRI4.out.hb
    refine ⟨h2.1, ?_, fun hb => ?_⟩
    · have := HGX.out; omega
    · have := (HRI4.out.rd.fp_lt b hb).1; omega))
  clear hg5 HRI4 HOW4 hob HSL HSL3 HOW HB13 HBW
  go_wp2_with fail
  generalize w1.heap.size = base at HRI5
  go_loopw [8, 9, 10, 11] (fun v8 v9 v10 v11 wr => ∃ k : Nat, v8 = .int .i64 (k : Int) ∧ k ≤ n2 ∧ Hid (∃ s, RI w base g f rr gx c A bs s s wr)) (fun v8 _ _ _ _ => n2 - (intOf v8).toNat)
  case atStart => exact ⟨0, rfl, Nat.zero_le _, hid ⟨_, HRI5.out⟩⟩
  case round =>
    clear HRI5
    obtain ⟨k, rfl, hk, HR⟩ := hrel
    obtain ⟨s, hri⟩ := HR.out
    have HRI := hid hri
    clear HR hri
    by_cases hlt : k < n2
    · have hlt' : (k : Int) < (n2 : Int) := by omega
      have hkl : k < ts.length := by have := HTH.out.len; omega
      obtain ⟨t, ht⟩ : ∃ t, ts[k]? = some t := ⟨ts[k], List.getElem?_eq_getElem hkl⟩
      have hm := List.mem_of_getElem? ht
      have HHr := HTH.out.keep HRI.out.bel
      obtain ⟨b2, off2, rfl, -⟩ := HHr.at_ (by omega)
      have HTK := hid (HHr.tok HLF.out hm)
      have HRUN := hid (run_load_thing HTK.out.1 (HHr.load ht (by omega)))
      have hz := (zero_of_info infoTh).1
      have HZ0 := hid (show (TV (th0 0)).size = (TV t).size from by rw [TV_size HTK.out.1]; exact TV_size rfl)
      have HSA := hid (size_th HTK.out.1)
      have HOA := hid (TV_oneCell t)
      have KZ := hid (Blk.new wr 38 (TV (th0 0)))
      have HNS := hid (new_set wr 38 (TV (th0 0)) (TV t))
      have HC0 := hid (TV_head (t := t) (i := 0) rfl)
      have HC1 := hid (TV_head (t := t) (i := 1) rfl)
      generalize TV (th0 0) = zt at hz HZ0 KZ HNS
      generalize TV t = cs at HRUN HZ0 HSA HOA HNS HC0 HC1
      clear ht hm HHr
      go_wp2_with (first | (refine wpList_load_run rfl 38 _ rfl _ _ rfl HRUN.out ?_) | ((refine wpList_store_blk rfl 38 _ _ rfl wr.heap.size _ rfl rfl 38 _ KZ.out HSA.out HZ0.out HOA.out ?_); refine Held.go ?_))
      obtain ⟨hb6, hk6⟩ := HNS.out
      have HRT := hid (show RT w base g f rr gx c A bs wr.heap.size cs s s _ from ⟨HRI.out.keep hb6, hk6, fun b hb => (HRI.out.rd.fp_lt b hb).2, HRI.out.rf.lt⟩)
      generalize (wr.alloc (.cells zt 38)).setRow wr.heap.size cs = w6 at hb6 hk6 HRT ⊢
      generalize wr.heap.size = T at HRT ⊢
      clear hb6 hk6 HNS KZ HRUN hz HZ0 HSA HOA HRI HTK
      unfold Held
      have e0 : w6.cell? ⟨T, 0, none⟩ = some (.int .i64 t.k) := HRT.out.tb.cell 0 HC0.out
      have HT1 := hid (fun W (h : Blk W T 38 cs) => (h.cell 1 HC1.out : W.cell? ⟨T, 1, none⟩ = some (.int .i64 t.n)))
      generalize t.k = kd at e0 HC0
      generalize t.n = most at HT1 HC1
      clear HC0 HC1
      by_cases h0 : kd = 0
      · subst h0
        have HK1 := hid (fun W (h : RdB W base g f rr bs s) => rNum_calls base g f rr bs s W h)
        have HK2 := hid (fun W (h : RfB W gx w.heap.size c A bs s) => refRNum_calls gx w.heap.size c A bs s W h)
        generalize numS bs maxI 0 s = q at HK1 HK2
        obtain ⟨qn, SN⟩ := q
        dsimp only at HK1 HK2
        generalize (qn : Int) = qz at HK1 HK2
        go_wp2_with fail
        refine (HK1.out w6 HRT.out.ri.rd).mono ?_
        rintro _ w7 ⟨rfl, hp⟩
        have HRT7 := hid (HRT.out.read hp)
        clear hp HRT e0 HK1
        go_wp2_with fail
        refine (HK2.out w7 HRT7.out.ri.rf).mono ?_
        rintro _ w8 ⟨rfl, hp⟩
        have HX := hid (HRT7.out.reff hp)
        clear hp HRT7 HK2
        have HR1 := hid (fun W (h : RT w base g f rr gx c A bs T cs SN SN W) => rest_calls base g f rr bs SN W h.ri.rd)
        have HR2 := hid (fun W (h : RT w base g f rr gx c A bs T cs SN SN W) => refRestB gx w.heap.size c A bs SN W h.ri.rf)
        have HN1 := hid (fun W (h : RT w base g f rr gx c A bs T cs SN SN W) => rEnd_calls base g f rr bs SN W h.ri.rd)
        have HN2' := hid (fun W (h : RT w base g f rr gx c A bs T cs SN SN W) => refEndB gx w.heap.size c A bs SN W h.ri.rf)
        generalize (restS bs SN : Int) = rz at HR1 HR2
        generalize ((endS bs SN).1 : Int) = z1 at HN1 HN2'
        generalize ((endS bs SN).2 : Int) = z2 at HN1 HN2'
        go_wp2_with fail
        refine (HR1.out _ HX.out).mono ?_
        rintro _ wa ⟨rfl, hba, -⟩
        have HA1 := hid (HX.out.keep hba)
        clear hba HX HR1
        go_wp2_with fail
        refine (HR2.out wa HA1.out).mono ?_
        rintro _ wb ⟨rfl, hbb⟩
        have HA2 := hid (HA1.out.keep hbb)
        clear hbb HA1 HR2
        go_wp2_with fail
        refine (HN1.out wb HA2.out).mono ?_
        rintro _ wc ⟨rfl, hbc⟩
        have HA3 := hid (HA2.out.keep hbc)
        clear hbc HA2 HN1
        go_wp2_with fail
        refine (HN2'.out wc HA3.out).mono ?_
        rintro _ wd ⟨rfl, hbd⟩
        have HA4 := hid (HA3.out.keep hbd)
        clear hbd HA3 HN2'
        go_wp2_with fail
        go_roundw
        case rel => exact ⟨k + 1, by go_num, by omega, hid ⟨SN, HA4.out.ri⟩⟩
        case measure => simp [intOf]; omega
      by_cases h1 : kd = 1
      · subst h1
        have HK1 := hid (fun W (h : RdB W base g f rr bs s) => rText_calls base g f rr bs s W most h)
        have HK2 := hid (fun W (h : RfB W gx w.heap.size c A bs s) => refRText_calls gx w.heap.size c A bs s W most h)
        generalize sizedS bs most s = q at HK1 HK2
        obtain ⟨qn, SN⟩ := q
        dsimp only at HK1 HK2
        generalize strB qn = st at HK1 HK2
        have HSTT := hid (show TxS w base g f rr gx c A bs T cs s SN (fun j => decide (10 ≤ j)) (fun _ => ()) w6.drew from ⟨HRT.out.drew⟩)
        go_wp2_with fail
        clear e0 HRT
        refine wp_region_invG 137 () (rdtVal g gx T most st) (TxS w base g f rr gx c A bs T cs s SN) (by kernel_rfl) (by kernel_rfl) (by exact Nat.le_refl 137) ?_ ?_ ?_
        · exact HSTT.out
        · intro i o f gh a W hi hf hdep hsame hcl hval hS
          rcases i with _ | _ | _ | _ | _ | _ | _ | _ | _ | _ | i
          all_goals simp only [List.getElem?_cons_succ, List.getElem?_cons_zero, List.getElem?_nil, Option.some.injEq, reduceCtorEq] at hi
          all_goals subst hi
          · have E6 : a.tmps[6]? = some (.pointer (some ⟨g, 0, none⟩)) := (same_of hsame 6 (by rfl)).trans rfl
            refine g_plain rfl ?_
            exact does_value (w' := W) (v := .pointer (some ⟨g, 0, none⟩)) (by go_simp) ⟨(), .inr rfl, (hS.step 0 (by decide) (by decide))⟩
          · have E9 : a.tmps[9]? = some (.pointer (some ⟨T, 0, none⟩)) := (same_of hsame 9 (by rfl)).trans rfl
            refine g_plain rfl ?_
            exact does_value (w' := W) (v := .pointer (some ⟨T, 1, none⟩)) (by go_simp) ⟨(), .inr rfl, (hS.step 1 (by decide) (by decide))⟩
          · have E59 := hval 1 _ 59 rfl rfl (dep_of hdep 1 (by rfl))
            unfold rdtVal at E59
            have ct := HT1.out W hS.rt.tb
            refine g_plain rfl ?_
            exact does_value (w' := W) (v := .int .i64 most) (by go_simp) ⟨(), .inr rfl, (hS.step 2 (by decide) (by decide))⟩
          · have E58 := hval 0 _ 58 rfl rfl (dep_of hdep 0 (by rfl))
            have E60 := hval 2 _ 60 rfl rfl (dep_of hdep 2 (by rfl))
            unfold rdtVal at E58 E60
            refine g_plain rfl ?_
            have hs := hS.pre3 hf
            refine does_call 38 #[.pointer (some ⟨g, 0, none⟩), .int .i64 most] (by go_simp) ((HK1.out W hs).mono ?_)
            rintro _ W' ⟨rfl, hp⟩
            exact ⟨_, rfl, (), .inr rfl, hS.s3 hf hp⟩
          · have E7 : a.tmps[7]? = some (.pointer (some ⟨gx, 0, none⟩)) := (same_of hsame 7 (by rfl)).trans rfl
            refine g_plain rfl ?_
            exact does_value (w' := W) (v := .pointer (some ⟨gx, 0, none⟩)) (by go_simp) ⟨(), .inr rfl, (hS.step 4 (by decide) (by decide))⟩
          · have E9 : a.tmps[9]? = some (.pointer (some ⟨T, 0, none⟩)) := (same_of hsame 9 (by rfl)).trans rfl
            refine g_plain rfl ?_
            exact does_value (w' := W) (v := .pointer (some ⟨T, 1, none⟩)) (by go_simp) ⟨(), .inr rfl, (hS.step 5 (by decide) (by decide))⟩
          · have E63 := hval 5 _ 63 rfl rfl (dep_of hdep 5 (by rfl))
            unfold rdtVal at E63
            have ct := HT1.out W hS.rt.tb
            refine g_plain rfl ?_
            exact does_value (w' := W) (v := .int .i64 most) (by go_simp) ⟨(), .inr rfl, (hS.step 6 (by decide) (by decide))⟩
          · have E62 := hval 4 _ 62 rfl rfl (dep_of hdep 4 (by rfl))
            have E64 := hval 6 _ 64 rfl rfl (dep_of hdep 6 (by rfl))
            unfold rdtVal at E62 E64
            refine g_plain rfl ?_
            have hs := hS.pre7 hf
            refine does_call 39 #[.pointer (some ⟨gx, 0, none⟩), .int .i64 most] (by go_simp) ((HK2.out W hs).mono ?_)
            rintro _ W' ⟨rfl, hp⟩
            exact ⟨_, rfl, (), .inr rfl, hS.s7 hf hp⟩
          · have E61 := hval 3 _ 61 rfl rfl (dep_of hdep 3 (by rfl))
            have E65 := hval 7 _ 65 rfl rfl (dep_of hdep 7 (by rfl))
            unfold rdtVal at E61 E65
            refine g_plain rfl ?_
            exact does_value (w' := W) (v := .bool true) (by go_simp) ⟨(), .inr rfl, (hS.step 8 (by decide) (by decide))⟩
          · have E66 := hval 8 _ 66 rfl rfl (dep_of hdep 8 (by rfl))
            unfold rdtVal at E66
            refine g_plain rfl ?_
            exact does_value (w' := W) (v := .bool true) (by go_simp) ⟨(), .inr rfl, (hS.step 9 (by decide) (by decide))⟩
        · intro gh w8 hS
          have HX := hid hS.fin
          clear hS HK1 HK2 HSTT HT1
          simp only [putAll, rdtVal, Nat.reduceAdd, Nat.zero_add, Act.put, List.setIfInBounds_toArray, List.set_cons_zero, List.set_cons_succ]
          have HR1 := hid (fun W (h : RT w base g f rr gx c A bs T cs SN SN W) => rest_calls base g f rr bs SN W h.ri.rd)
          have HR2 := hid (fun W (h : RT w base g f rr gx c A bs T cs SN SN W) => refRestB gx w.heap.size c A bs SN W h.ri.rf)
          have HN1 := hid (fun W (h : RT w base g f rr gx c A bs T cs SN SN W) => rEnd_calls base g f rr bs SN W h.ri.rd)
          have HN2' := hid (fun W (h : RT w base g f rr gx c A bs T cs SN SN W) => refEndB gx w.heap.size c A bs SN W h.ri.rf)
          generalize (restS bs SN : Int) = rz at HR1 HR2
          generalize ((endS bs SN).1 : Int) = z1 at HN1 HN2'
          generalize ((endS bs SN).2 : Int) = z2 at HN1 HN2'
          go_wp2_with fail
          refine (HR1.out _ HX.out).mono ?_
          rintro _ wa ⟨rfl, hba, -⟩
          have HA1 := hid (HX.out.keep hba)
          clear hba HX HR1
          go_wp2_with fail
          refine (HR2.out wa HA1.out).mono ?_
          rintro _ wb ⟨rfl, hbb⟩
          have HA2 := hid (HA1.out.keep hbb)
          clear hbb HA1 HR2
          go_wp2_with fail
          refine (HN1.out wb HA2.out).mono ?_
          rintro _ wc ⟨rfl, hbc⟩
          have HA3 := hid (HA2.out.keep hbc)
          clear hbc HA2 HN1
          go_wp2_with fail
          refine (HN2'.out wc HA3.out).mono ?_
          rintro _ wd ⟨rfl, hbd⟩
          have HA4 := hid (HA3.out.keep hbd)
          clear hbd HA3 HN2'
          go_wp2_with fail
          go_roundw
          case rel => exact ⟨k + 1, by go_num, by omega, hid ⟨SN, HA4.out.ri⟩⟩
          case measure => simp [intOf]; omega
      by_cases h2 : kd = 2
      · subst h2
        have hzl := sizedS_len bs most s
        have hbl := HRT.out.ri.rd.len
        have HK1 := hid (fun W (h : RdB W base g f rr bs s) => rBytes_calls base g f rr bs s W hbl most h)
        have HK2 := hid (fun W (h : RfB W gx w.heap.size c A bs s) => (refRBytes_calls gx w.heap.size c A bs s W most h : Calls Try.prog 41 #[.pointer (some ⟨gx, 0, none⟩), .int .i64 most] W fun e w' => ∃ v, e = .returned v ∧ Own w' W.heap.size 5 v (sizedS bs most s).1.length (sizedS bs most s).1 ∧ RfP W gx w.heap.size c A bs (sizedS bs most s).2 w'))
        have HZL := hid (show (sizedS bs most s).1.length ≤ 549755813888 from by omega)
        clear hzl hbl
        generalize sizedS bs most s = q at HK1 HK2 HZL
        obtain ⟨xs, SN⟩ := q
        dsimp only at HK1 HK2 HZL
        have e1 := HT1.out w6 HRT.out.tb
        have HTL := hid HRT.out.tl
        go_wp2_with fail
        refine (HK1.out w6 HRT.out.ri.rd).mono ?_
        rintro _ w7 ⟨v, rfl, ho, hp⟩
        have HRT7 := hid (HRT.out.read hp)
        obtain ⟨A3, c3, rfl, -, sb3, -⟩ := ho.sb
        have HO7 := hid ho
        clear ho hp HRT e0 e1 HK1 sb3
        have e1 := HT1.out w7 HRT7.out.tb
        go_wp2_with fail
        refine (HK2.out w7 HRT7.out.ri.rf).mono ?_
        rintro _ w8 ⟨v, rfl, ho, hp⟩
        obtain ⟨A4, c4, rfl, -, sb4, -⟩ := ho.sb
        have HRT8 := hid (HRT7.out.reff hp)
        have HO8 := hid (HO7.out.chg hp.2 (fun b hb hm => by
          have h1 := (World.ownsRow.lt HO7.out b hb).1
          have h2 := HRT7.out.gl
          have h3 := HTL.out
          simp at hm; omega))
        obtain ⟨A3', c3', e3, -, sb3, -⟩ := HO8.out.sb
        obtain ⟨rfl, rfl⟩ : A3 = A3' ∧ c3 = c3' := by injection e3 with h1 _ h3; exact ⟨h1, h3⟩
        have HSM := hid (sameBytes_calls _ xs.length c3 _ xs.length c4 A3 A4 xs xs w8 sb3 sb4)
        rw [beq_self_eq_true] at HSM
        clear ho hp HRT7 HO7 e1 e3 sb3 sb4 HK2
        go_wp2_with fail
        refine HSM.out.mono ?_
        rintro _ _ ⟨rfl, rfl⟩
        go_wp2_with fail
        refine (overBytes_calls w6.heap.size xs.length c3 A3 xs w8 HO8.out (by have := HZL.out; omega)).mono ?_
        rintro _ w9 ⟨rfl, hg9⟩
        have HX := hid (HRT8.out.high (Chg.of_grown (L := (Value.slice A3 xs.length c3).ownBlock.toList) hg9 (fun b e => by rw [e]; simp)) (fun b hm => by
          have h1 : (Value.slice A3 xs.length c3).ownBlock = some b := by simpa using hm
          have h2 := (World.ownsRow.lt HO8.out b h1).1
          have h3 := HTL.out
          omega))
        clear hg9 HRT8 HO8 HSM
        have HR1 := hid (fun W (h : RT w base g f rr gx c A bs T cs SN SN W) => rest_calls base g f rr bs SN W h.ri.rd)
        have HR2 := hid (fun W (h : RT w base g f rr gx c A bs T cs SN SN W) => refRestB gx w.heap.size c A bs SN W h.ri.rf)
        have HN1 := hid (fun W (h : RT w base g f rr gx c A bs T cs SN SN W) => rEnd_calls base g f rr bs SN W h.ri.rd)
        have HN2' := hid (fun W (h : RT w base g f rr gx c A bs T cs SN SN W) => refEndB gx w.heap.size c A bs SN W h.ri.rf)
        generalize (restS bs SN : Int) = rz at HR1 HR2
        generalize ((endS bs SN).1 : Int) = z1 at HN1 HN2'
        generalize ((endS bs SN).2 : Int) = z2 at HN1 HN2'
        go_wp2_with fail
        refine (HR1.out _ HX.out).mono ?_
        rintro _ wa ⟨rfl, hba, -⟩
        have HA1 := hid (HX.out.keep hba)
        clear hba HX HR1
        go_wp2_with fail
        refine (HR2.out wa HA1.out).mono ?_
        rintro _ wb ⟨rfl, hbb⟩
        have HA2 := hid (HA1.out.keep hbb)
        clear hbb HA1 HR2
        go_wp2_with fail
        refine (HN1.out wb HA2.out).mono ?_
        rintro _ wc ⟨rfl, hbc⟩
        have HA3 := hid (HA2.out.keep hbc)
        clear hbc HA2 HN1
        go_wp2_with fail
        refine (HN2'.out wc HA3.out).mono ?_
        rintro _ wd ⟨rfl, hbd⟩
        have HA4 := hid (HA3.out.keep hbd)
        clear hbd HA3 HN2'
        go_wp2_with fail
        go_roundw
        case rel => exact ⟨k + 1, by go_num, by omega, hid ⟨SN, HA4.out.ri⟩⟩
        case measure => simp [intOf]; omega
      by_cases h3 : kd = 3
      · subst h3
        have HK1 := hid (fun W (h : RdB W base g f rr bs s) => rID_calls base g f rr bs s W h)
        have HK2 := hid (fun W (h : RfB W gx w.heap.size c A bs s) => refRID_calls gx w.heap.size c A bs s W h)
        have h32 := idS_length' bs s
        generalize idS bs s = q at HK1 HK2 h32
        obtain ⟨qn, SN⟩ := q
        dsimp only at HK1 HK2 h32
        have HEQ := hid (run_equal_arr (P := Try.prog) 33 5 32 Try.underlying33 Try.underlying5 (by kernel_rfl) qn qn h32 h32)
        rw [beq_self_eq_true] at HEQ
        go_wp2_with fail
        refine (HK1.out w6 HRT.out.ri.rd).mono ?_
        rintro _ w7 ⟨rfl, hp⟩
        have HRT7 := hid (HRT.out.read hp)
        clear hp HRT e0 HK1
        go_wp2_with fail
        refine (HK2.out w7 HRT7.out.ri.rf).mono ?_
        rintro _ w8 ⟨rfl, hp⟩
        have HX := hid (HRT7.out.reff hp)
        clear hp HRT7 HK2
        have heq : ∀ W, (Op.equalIn 10000 33 (.agg (bcells qn)) (.agg (bcells qn))).run Try.prog W = .ok true W := HEQ.out
        clear HEQ
        have HR1 := hid (fun W (h : RT w base g f rr gx c A bs T cs SN SN W) => rest_calls base g f rr bs SN W h.ri.rd)
        have HR2 := hid (fun W (h : RT w base g f rr gx c A bs T cs SN SN W) => refRestB gx w.heap.size c A bs SN W h.ri.rf)
        have HN1 := hid (fun W (h : RT w base g f rr gx c A bs T cs SN SN W) => rEnd_calls base g f rr bs SN W h.ri.rd)
        have HN2' := hid (fun W (h : RT w base g f rr gx c A bs T cs SN SN W) => refEndB gx w.heap.size c A bs SN W h.ri.rf)
        generalize (restS bs SN : Int) = rz at HR1 HR2
        generalize ((endS bs SN).1 : Int) = z1 at HN1 HN2'
        generalize ((endS bs SN).2 : Int) = z2 at HN1 HN2'
        go_wp2_with fail
        clear heq
        refine (HR1.out _ HX.out).mono ?_
        rintro _ wa ⟨rfl, hba, -⟩
        have HA1 := hid (HX.out.keep hba)
        clear hba HX HR1
        go_wp2_with fail
        refine (HR2.out wa HA1.out).mono ?_
        rintro _ wb ⟨rfl, hbb⟩
        have HA2 := hid (HA1.out.keep hbb)
        clear hbb HA1 HR2
        go_wp2_with fail
        refine (HN1.out wb HA2.out).mono ?_
        rintro _ wc ⟨rfl, hbc⟩
        have HA3 := hid (HA2.out.keep hbc)
        clear hbc HA2 HN1
        go_wp2_with fail
        refine (HN2'.out wc HA3.out).mono ?_
        rintro _ wd ⟨rfl, hbd⟩
        have HA4 := hid (HA3.out.keep hbd)
        clear hbd HA3 HN2'
        go_wp2_with fail
        go_roundw
        case rel => exact ⟨k + 1, by go_num, by omega, hid ⟨SN, HA4.out.ri⟩⟩
        case measure => simp [intOf]; omega
      by_cases h4 : kd = 4
      · subst h4
        have HK1 := hid (fun W (h : RdB W base g f rr bs s) => rDot_calls base g f rr bs s W h)
        have HK2 := hid (fun W (h : RfB W gx w.heap.size c A bs s) => refRDot_calls gx w.heap.size c A bs s W h)
        generalize dotS bs s = q at HK1 HK2
        obtain ⟨⟨qx, qy⟩, SN⟩ := q
        dsimp only at HK1 HK2
        generalize (qx : Int) = dx at HK1 HK2
        generalize (qy : Int) = dy at HK1 HK2
        go_wp2_with fail
        refine (HK1.out w6 HRT.out.ri.rd).mono ?_
        rintro _ w7 ⟨rfl, hp⟩
        have HRT7 := hid (HRT.out.read hp)
        clear hp HRT e0 HK1
        go_wp2_with fail
        refine (HK2.out w7 HRT7.out.ri.rf).mono ?_
        rintro _ w8 ⟨rfl, hp⟩
        have HX := hid (HRT7.out.reff hp)
        clear hp HRT7 HK2
        have hdot := fun W => eql_dot dx dy dx dy W
        have HR1 := hid (fun W (h : RT w base g f rr gx c A bs T cs SN SN W) => rest_calls base g f rr bs SN W h.ri.rd)
        have HR2 := hid (fun W (h : RT w base g f rr gx c A bs T cs SN SN W) => refRestB gx w.heap.size c A bs SN W h.ri.rf)
        have HN1 := hid (fun W (h : RT w base g f rr gx c A bs T cs SN SN W) => rEnd_calls base g f rr bs SN W h.ri.rd)
        have HN2' := hid (fun W (h : RT w base g f rr gx c A bs T cs SN SN W) => refEndB gx w.heap.size c A bs SN W h.ri.rf)
        generalize (restS bs SN : Int) = rz at HR1 HR2
        generalize ((endS bs SN).1 : Int) = z1 at HN1 HN2'
        generalize ((endS bs SN).2 : Int) = z2 at HN1 HN2'
        go_wp2_with fail
        clear hdot
        refine (HR1.out _ HX.out).mono ?_
        rintro _ wa ⟨rfl, hba, -⟩
        have HA1 := hid (HX.out.keep hba)
        clear hba HX HR1
        go_wp2_with fail
        refine (HR2.out wa HA1.out).mono ?_
        rintro _ wb ⟨rfl, hbb⟩
        have HA2 := hid (HA1.out.keep hbb)
        clear hbb HA1 HR2
        go_wp2_with fail
        refine (HN1.out wb HA2.out).mono ?_
        rintro _ wc ⟨rfl, hbc⟩
        have HA3 := hid (HA2.out.keep hbc)
        clear hbc HA2 HN1
        go_wp2_with fail
        refine (HN2'.out wc HA3.out).mono ?_
        rintro _ wd ⟨rfl, hbd⟩
        have HA4 := hid (HA3.out.keep hbd)
        clear hbd HA3 HN2'
        go_wp2_with fail
        go_roundw
        case rel => exact ⟨k + 1, by go_num, by omega, hid ⟨SN, HA4.out.ri⟩⟩
        case measure => simp [intOf]; omega
      by_cases h5 : kd = 5
      · subst h5
        have hzl : (vecS bs most s).1.length ≤ 549755813888 := vecS_len bs most s HRT.out.ri.rf.good HRT.out.ri.rd.len
        have HK1 := hid (fun W (h : RdB W base g f rr bs s) => rVec_calls base g f rr bs s most W h)
        have HK2 := hid (fun W (h : RfB W gx w.heap.size c A bs s) => (refRVec_calls gx w.heap.size c A bs s W most h : Calls Try.prog 48 #[.pointer (some ⟨gx, 0, none⟩), .int .i64 most] W fun e w' => ∃ v, e = .returned v ∧ OwnI w' W.heap.size v (vecS bs most s).1 ∧ RfP W gx w.heap.size c A bs (vecS bs most s).2 w'))
        have HZL := hid hzl
        clear hzl
        generalize vecS bs most s = q at HK1 HK2 HZL
        obtain ⟨zs, SN⟩ := q
        dsimp only at HK1 HK2 HZL
        have HSTT := hid (show VcS w6 w base g f rr gx c A bs T cs s SN zs (fun j => decide (10 ≤ j)) (fun _ => .pointer none) w6.drew from ⟨HRT.out.drew, HRT.out.tl, (fun e => by cases e), (fun e => by cases e), Nat.le_refl _⟩)
        go_wp2_with fail
        clear e0 HRT
        refine wp_region_invG 137 (.pointer none) (rdvVal g gx T most) (VcS w6 w base g f rr gx c A bs T cs s SN zs) (by kernel_rfl) (by kernel_rfl) (by exact Nat.le_refl 137) ?_ ?_ ?_
        · exact HSTT.out
        · intro i o f gh a W hi hf hdep hsame hcl hval hS
          rcases i with _ | _ | _ | _ | _ | _ | _ | _ | _ | _ | i
          all_goals simp only [List.getElem?_cons_succ, List.getElem?_cons_zero, List.getElem?_nil, Option.some.injEq, reduceCtorEq] at hi
          all_goals subst hi
          · have E6 : a.tmps[6]? = some (.pointer (some ⟨g, 0, none⟩)) := (same_of hsame 6 (by rfl)).trans rfl
            refine g_plain rfl ?_
            exact does_value (w' := W) (v := .pointer (some ⟨g, 0, none⟩)) (by go_simp) ⟨(.pointer none), .inr rfl, (hS.step 0 (.pointer none) (by decide) (by decide))⟩
          · have E9 : a.tmps[9]? = some (.pointer (some ⟨T, 0, none⟩)) := (same_of hsame 9 (by rfl)).trans rfl
            refine g_plain rfl ?_
            exact does_value (w' := W) (v := .pointer (some ⟨T, 1, none⟩)) (by go_simp) ⟨(.pointer none), .inr rfl, (hS.step 1 (.pointer none) (by decide) (by decide))⟩
          · have E98 := hval 1 _ 98 rfl rfl (dep_of hdep 1 (by rfl))
            unfold rdvVal at E98
            have ct := HT1.out W hS.rt.tb
            refine g_plain rfl ?_
            exact does_value (w' := W) (v := .int .i64 most) (by go_simp) ⟨(.pointer none), .inr rfl, (hS.step 2 (.pointer none) (by decide) (by decide))⟩
          · have E97 := hval 0 _ 97 rfl rfl (dep_of hdep 0 (by rfl))
            have E99 := hval 2 _ 99 rfl rfl (dep_of hdep 2 (by rfl))
            unfold rdvVal at E97 E99
            refine g_plain rfl ?_
            have hs := hS.pre3 hf
            refine does_call 47 #[.pointer (some ⟨g, 0, none⟩), .int .i64 most] (by go_simp) ((HK1.out W hs).mono ?_)
            rintro _ W' ⟨v, rfl, ho, hp⟩
            exact ⟨v, rfl, v, .inr rfl, hS.s3 hf  ho hp⟩
          · have E7 : a.tmps[7]? = some (.pointer (some ⟨gx, 0, none⟩)) := (same_of hsame 7 (by rfl)).trans rfl
            refine g_plain rfl ?_
            exact does_value (w' := W) (v := .pointer (some ⟨gx, 0, none⟩)) (by go_simp) ⟨(.pointer none), .inr rfl, (hS.step 4 (.pointer none) (by decide) (by decide))⟩
          · have E9 : a.tmps[9]? = some (.pointer (some ⟨T, 0, none⟩)) := (same_of hsame 9 (by rfl)).trans rfl
            refine g_plain rfl ?_
            exact does_value (w' := W) (v := .pointer (some ⟨T, 1, none⟩)) (by go_simp) ⟨(.pointer none), .inr rfl, (hS.step 5 (.pointer none) (by decide) (by decide))⟩
          · have E102 := hval 5 _ 102 rfl rfl (dep_of hdep 5 (by rfl))
            unfold rdvVal at E102
            have ct := HT1.out W hS.rt.tb
            refine g_plain rfl ?_
            exact does_value (w' := W) (v := .int .i64 most) (by go_simp) ⟨(.pointer none), .inr rfl, (hS.step 6 (.pointer none) (by decide) (by decide))⟩
          · have E101 := hval 4 _ 101 rfl rfl (dep_of hdep 4 (by rfl))
            have E103 := hval 6 _ 103 rfl rfl (dep_of hdep 6 (by rfl))
            unfold rdvVal at E101 E103
            refine g_plain rfl ?_
            have hs := hS.pre7 hf
            refine does_call 48 #[.pointer (some ⟨gx, 0, none⟩), .int .i64 most] (by go_simp) ((HK2.out W hs).mono ?_)
            rintro _ W' ⟨v, rfl, ho, hp⟩
            exact ⟨v, rfl, v, .inr rfl, hS.s7 hf  ho hp⟩
          · have E100 := hval 3 _ 100 rfl rfl (dep_of hdep 3 (by rfl))
            have E104 := hval 7 _ 104 rfl rfl (dep_of hdep 7 (by rfl))
            unfold rdvVal at E100 E104
            refine g_plain rfl ?_
            obtain ⟨A3, c3, ev3, -, si3, -⟩ := (hS.o3 (dep_of hdep 3 (by rfl))).si
            obtain ⟨A7, c7, ev7, -, si7, -⟩ := (hS.o7 (dep_of hdep 7 (by rfl))).si
            rw [ev3] at E100
            rw [ev7] at E104
            have HSI := hid (sameInts_calls zs.length c3 zs.length c7 A3 A7 zs zs W si3 si7 HZL.out HZL.out)
            rw [beq_self_eq_true] at HSI
            clear si3 si7 ev3 ev7
            refine does_call 46 #[.slice A3 zs.length c3, .slice A7 zs.length c7] (by go_simp) (HSI.out.mono ?_)
            rintro _ W' ⟨rfl, hb⟩
            exact ⟨_, rfl, .pointer none, .inr rfl, hS.s8 hb⟩
          · have E105 := hval 8 _ 105 rfl rfl (dep_of hdep 8 (by rfl))
            unfold rdvVal at E105
            refine g_plain rfl ?_
            exact does_value (w' := W) (v := .bool true) (by go_simp) ⟨(.pointer none), .inr rfl, (hS.step 9 (.pointer none) (by decide) (by decide))⟩
        · intro gh w8 hS
          have HX := hid hS.fin
          clear hS HK1 HK2 HSTT HT1
          simp only [putAll, rdvVal, Nat.reduceAdd, Nat.zero_add, Act.put, List.setIfInBounds_toArray, List.set_cons_zero, List.set_cons_succ]
          have HR1 := hid (fun W (h : RT w base g f rr gx c A bs T cs SN SN W) => rest_calls base g f rr bs SN W h.ri.rd)
          have HR2 := hid (fun W (h : RT w base g f rr gx c A bs T cs SN SN W) => refRestB gx w.heap.size c A bs SN W h.ri.rf)
          have HN1 := hid (fun W (h : RT w base g f rr gx c A bs T cs SN SN W) => rEnd_calls base g f rr bs SN W h.ri.rd)
          have HN2' := hid (fun W (h : RT w base g f rr gx c A bs T cs SN SN W) => refEndB gx w.heap.size c A bs SN W h.ri.rf)
          generalize (restS bs SN : Int) = rz at HR1 HR2
          generalize ((endS bs SN).1 : Int) = z1 at HN1 HN2'
          generalize ((endS bs SN).2 : Int) = z2 at HN1 HN2'
          go_wp2_with fail
          refine (HR1.out _ HX.out).mono ?_
          rintro _ wa ⟨rfl, hba, -⟩
          have HA1 := hid (HX.out.keep hba)
          clear hba HX HR1
          go_wp2_with fail
          refine (HR2.out wa HA1.out).mono ?_
          rintro _ wb ⟨rfl, hbb⟩
          have HA2 := hid (HA1.out.keep hbb)
          clear hbb HA1 HR2
          go_wp2_with fail
          refine (HN1.out wb HA2.out).mono ?_
          rintro _ wc ⟨rfl, hbc⟩
          have HA3 := hid (HA2.out.keep hbc)
          clear hbc HA2 HN1
          go_wp2_with fail
          refine (HN2'.out wc HA3.out).mono ?_
          rintro _ wd ⟨rfl, hbd⟩
          have HA4 := hid (HA3.out.keep hbd)
          clear hbd HA3 HN2'
          go_wp2_with fail
          go_roundw
          case rel => exact ⟨k + 1, by go_num, by omega, hid ⟨SN, HA4.out.ri⟩⟩
          case measure => simp [intOf]; omega
      by_cases h6 : kd = 6
      · subst h6
        have HK1 := hid (fun W (h : RdB W base g f rr bs s) => rBool_calls base g f rr bs s W h)
        have HK2 := hid (show ∀ W, RfB W gx w.heap.size c A bs s → Calls Try.prog 50 #[.pointer (some ⟨gx, 0, none⟩)] W fun e w' => e = .returned (.bool (((numS bs 1 5 s).1 : Int) == 1)) ∧ RfP W gx w.heap.size c A bs (numS bs 1 5 s).2 w' from fun W h => refRBool_calls gx w.heap.size c A bs s W h)
        generalize numS bs 1 5 s = q at HK1 HK2
        obtain ⟨qn, SN⟩ := q
        dsimp only at HK1 HK2
        generalize ((qn : Int) == 1) = qb at HK1 HK2
        go_wp2_with fail
        refine (HK1.out w6 HRT.out.ri.rd).mono ?_
        rintro _ w7 ⟨rfl, hp⟩
        have HRT7 := hid (HRT.out.read hp)
        clear hp HRT e0 HK1
        go_wp2_with fail
        refine (HK2.out w7 HRT7.out.ri.rf).mono ?_
        rintro _ w8 ⟨rfl, hp⟩
        have HX := hid (HRT7.out.reff hp)
        clear hp HRT7 HK2
        have HR1 := hid (fun W (h : RT w base g f rr gx c A bs T cs SN SN W) => rest_calls base g f rr bs SN W h.ri.rd)
        have HR2 := hid (fun W (h : RT w base g f rr gx c A bs T cs SN SN W) => refRestB gx w.heap.size c A bs SN W h.ri.rf)
        have HN1 := hid (fun W (h : RT w base g f rr gx c A bs T cs SN SN W) => rEnd_calls base g f rr bs SN W h.ri.rd)
        have HN2' := hid (fun W (h : RT w base g f rr gx c A bs T cs SN SN W) => refEndB gx w.heap.size c A bs SN W h.ri.rf)
        generalize (restS bs SN : Int) = rz at HR1 HR2
        generalize ((endS bs SN).1 : Int) = z1 at HN1 HN2'
        generalize ((endS bs SN).2 : Int) = z2 at HN1 HN2'
        go_wp2_with fail
        refine (HR1.out _ HX.out).mono ?_
        rintro _ wa ⟨rfl, hba, -⟩
        have HA1 := hid (HX.out.keep hba)
        clear hba HX HR1
        go_wp2_with fail
        refine (HR2.out wa HA1.out).mono ?_
        rintro _ wb ⟨rfl, hbb⟩
        have HA2 := hid (HA1.out.keep hbb)
        clear hbb HA1 HR2
        go_wp2_with fail
        refine (HN1.out wb HA2.out).mono ?_
        rintro _ wc ⟨rfl, hbc⟩
        have HA3 := hid (HA2.out.keep hbc)
        clear hbc HA2 HN1
        go_wp2_with fail
        refine (HN2'.out wc HA3.out).mono ?_
        rintro _ wd ⟨rfl, hbd⟩
        have HA4 := hid (HA3.out.keep hbd)
        clear hbd HA3 HN2'
        go_wp2_with fail
        go_roundw
        case rel => exact ⟨k + 1, by go_num, by omega, hid ⟨SN, HA4.out.ri⟩⟩
        case measure => simp [intOf]; omega
      have k0 : (kd == 0) = false := by simpa using h0
      have k1 : (kd == 1) = false := by simpa using h1
      have k2 : (kd == 2) = false := by simpa using h2
      have k3 : (kd == 3) = false := by simpa using h3
      have k4 : (kd == 4) = false := by simpa using h4
      have k5 : (kd == 5) = false := by simpa using h5
      have k6 : (kd == 6) = false := by simpa using h6
      have HX := HRT
      have SN0 := s
      have HR1 := hid (fun W (h : RT w base g f rr gx c A bs T cs s s W) => rest_calls base g f rr bs s W h.ri.rd)
      have HR2 := hid (fun W (h : RT w base g f rr gx c A bs T cs s s W) => refRestB gx w.heap.size c A bs s W h.ri.rf)
      have HN1 := hid (fun W (h : RT w base g f rr gx c A bs T cs s s W) => rEnd_calls base g f rr bs s W h.ri.rd)
      have HN2' := hid (fun W (h : RT w base g f rr gx c A bs T cs s s W) => refEndB gx w.heap.size c A bs s W h.ri.rf)
      generalize (restS bs s : Int) = rz at HR1 HR2
      generalize ((endS bs s).1 : Int) = z1 at HN1 HN2'
      generalize ((endS bs s).2 : Int) = z2 at HN1 HN2'
      go_wp2_with fail
      clear e0
      refine (HR1.out _ HX.out).mono ?_
      rintro _ wa ⟨rfl, hba, -⟩
      have HA1 := hid (HX.out.keep hba)
      clear hba HX HR1
      go_wp2_with fail
      refine (HR2.out wa HA1.out).mono ?_
      rintro _ wb ⟨rfl, hbb⟩
      have HA2 := hid (HA1.out.keep hbb)
      clear hbb HA1 HR2
      go_wp2_with fail
      refine (HN1.out wb HA2.out).mono ?_
      rintro _ wc ⟨rfl, hbc⟩
      have HA3 := hid (HA2.out.keep hbc)
      clear hbc HA2 HN1
      go_wp2_with fail
      refine (HN2'.out wc HA3.out).mono ?_
      rintro _ wd ⟨rfl, hbd⟩
      have HA4 := hid (HA3.out.keep hbd)
      clear hbd HA3 HN2'
      go_wp2_with fail
      go_roundw
      case rel => exact ⟨k + 1, by go_num, by omega, hid ⟨s, HA4.out.ri⟩⟩
      case measure => simp [intOf]; omega
    · obtain rfl : k = n2 := by omega
      have HE1 := hid (fun W (h : RI w base g f rr gx c A bs s s W) => rEnd_calls base g f rr bs s W h.rd)
      have HE2 := hid (fun W (h : RI w base g f rr gx c A bs s s W) => refEndB gx w.heap.size c A bs s W h.rf)
      generalize endS bs s = en at HE1 HE2
      generalize (en.1 : Int) = x1 at HE1 HE2
      generalize (en.2 : Int) = x2 at HE1 HE2
      go_wp2_with fail
      refine (HE1.out wr HRI.out).mono ?_
      rintro _ w7 ⟨rfl, hb7⟩
      have HRI7 := hid (HRI.out.keep hb7)
      clear hb7 HRI
      go_wp2_with fail
      refine (HE2.out w7 HRI7.out).mono ?_
      rintro _ w8 ⟨rfl, hb8⟩
      have HRI8 := hid (HRI7.out.keep hb8)
      clear hb8 HRI7
      go_wp2_with fail
      refine (HAW.out w8).mono ?_
      rintro _ w9 ⟨rfl, hb9⟩
      have HRI9 := hid (HRI8.out.keep hb9)
      clear hb9 HRI8
      go_wp2_with fail
      go_ret
      exact ⟨rfl, HRI9.out.bel⟩
end Go.Proofs.Ytcpkjpeimnaimaa
