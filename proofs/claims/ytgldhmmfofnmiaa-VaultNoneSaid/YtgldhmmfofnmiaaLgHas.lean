/- Contracts: what an area has; so many bytes. -/
import Derived.Test.YtgldhmmfofnmiaaLgHelp
namespace Go.Proofs.Ytgldhmmfofnmiaa
open Go.RowKit

theorem scanL_len (gen : Nat) (sec : Nat → List UInt8) (fuel i : Nat) (rec : List UInt8) (recs : List (List UInt8)) (e : Nat) : (scanL gen sec fuel i rec recs e).1.length ≤ recs.length + fuel := by
  induction fuel generalizing i rec recs e with
  | zero => exact Nat.le_refl _
  | succ n ih =>
    rw [scan_succ]
    split
    · split
      · split
        · simp
        · have := ih (i + 1) [] (recs ++ [rec ++ partL (sec i)]) (i + 1)
          simp only [List.length_append, List.length_cons, List.length_nil] at this
          omega
      · have := ih (i + 1) (rec ++ partL (sec i)) recs e
        omega
    · simp
theorem scanR_len (s : DS) (a : AR) (h : s.n ≤ 65536) : (scanR s a).1.length ≤ 65536 := by
  unfold scanR
  split
  · rename_i hc
    have hk := check_ok hc.1
    obtain ⟨k1, k2, k3, -, -⟩ := hk
    have := scanL_len a.g.toNat (secsOf s a.a.toNat) (a.b - a.a).toNat 0 [] [] 0
    simp only [List.length_nil] at this
    omega
  · simp
/-- has an area just these records? -/
def hasL (s : DS) (a : AR) (next : Int) (l : List (List UInt8)) : Bool := scanE s a == 0 && ((scanR s a).2 : Int) == next && (scanR s a).1 == l
def manyB (n : Nat) : List UInt8 := (List.range n).map fun i => UInt8.ofNat (i * 7)
theorem manyB_succ (n : Nat) : manyB (n + 1) = manyB n ++ [UInt8.ofNat (n * 7)] := by simp [manyB, List.range_succ]
theorem manyB_len (n : Nat) : (manyB n).length = n := by simp [manyB]
end Go.Proofs.Ytgldhmmfofnmiaa
/- Two devices side by side; lists of bytes handed in. -/
namespace Go.Proofs.Ytgldhmmfofnmiaa
open Go.RowKit

/-- Since w0 only new blocks have changed; two of them are devices that share none. -/
def Dev2 (w0 w : World) (g : Nat) (s : DS) (g2 : Nat) (s2 : DS) : Prop :=
  Below w0.heap.size w0 w ∧ ∃ F G, DevB w w0.heap.size F g s ∧ DevB w w0.heap.size G g2 s2 ∧ ∀ b ∈ F, b ∉ G
section
variable {w0 w w1 w2 : World} {g g2 : Nat} {s s2 : DS}
theorem Dev2.swap (h : Dev2 w0 w g s g2 s2) : Dev2 w0 w g2 s2 g s := by
  obtain ⟨h0, F, G, h1, h2, h3⟩ := h
  exact ⟨h0, G, F, h2, h1, fun b hb hm => h3 b hm hb⟩
theorem Dev2.keep (h : Dev2 w0 w g s g2 s2) (hb : Below w.heap.size w w1) : Dev2 w0 w1 g s g2 s2 := by
  obtain ⟨h0, F, G, h1, h2, h3⟩ := h
  exact ⟨h0.trans (hb.mono h0.size), F, G, h1.keep hb, h2.keep hb, h3⟩
theorem Dev2.fst (h : Dev2 w0 w g s g2 s2) : Dev1 w0 w g s := by
  obtain ⟨h0, F, G, h1, h2, h3⟩ := h
  exact ⟨h0, F, h1⟩
theorem dev_lower {base base' : Nat} {F : List Nat} (h : DevB w base F g s) (hle : base' ≤ base) : DevB w base' F g s := by
  obtain ⟨a, m, A, c, q, h, h2, h3, h4⟩ := h
  exact ⟨a, m, A, c, q, { hd := h.hd, now := h.now, img := h.img, row := row_lower h.row hle, fz := h.fz, ga := h.ga, gm := h.gm, am := h.am, rs := h.rs, qs := fun f hf => by have := h.qs f hf; exact ⟨this.1, this.2.1, this.2.2.1, Nat.le_trans hle this.2.2.2.1, this.2.2.2.2⟩, hg := Nat.le_trans hle h.hg, ha := Nat.le_trans hle h.ha, hm := Nat.le_trans hle h.hm }, h2, h3, fun b hb => ⟨Nat.le_trans hle (h4 b hb).1, (h4 b hb).2⟩⟩
theorem dev2_of (h1 : Dev1 w0 w1 g s) (h2 : Dev1 w1 w2 g2 s2) : Dev2 w0 w2 g s g2 s2 := by
  obtain ⟨a0, F, a1⟩ := h1
  obtain ⟨b0, G, b1⟩ := h2
  exact ⟨a0.trans (b0.mono a0.size), F, G, a1.keep b0, dev_lower b1 a0.size, fun b hb hm => by have := (a1.lt b hb).2; have := (b1.lt b hm).1; omega⟩
theorem Dev2.on {F G : List Nat} {s' : DS} {w' : World} (h0 : Below w0.heap.size w0 w) (h1 : DevB w w0.heap.size F g s) (h2 : DevB w w0.heap.size G g2 s2) (h3 : ∀ b ∈ F, b ∉ G) (hp : DevAt w w0.heap.size F g s' w') : Dev2 w0 w' g s' g2 s2 := by
  obtain ⟨F', a1, a2, a3⟩ := hp
  refine ⟨h0.trans (a2.below (fun b hb => (h1.lt b hb).1) h0.size), F', G, a1, h2.chg a2 (fun b hb hm => h3 b hm hb), fun b hb hm => ?_⟩
  rcases a3 b hb with h | h
  · exact h3 b h hm
  · have := (h2.lt b hm).2; omega
theorem d2_lwrite (a : AR) (at_ : Int) (A : Option Addr) (n c B : Nat) (rec : List UInt8) (h : Dev2 w0 w g s g2 s2) (hf : fuseOK s) (hlo : s.loose.length + 65536 ≤ 1000000) (hb1 : Below w.heap.size w w1) (hs : SB w1 B A n rec) (hc : n ≤ c) (hne : 0 < n → ∀ b off, A = some ⟨b, off, none⟩ → b < w0.heap.size ∨ w.heap.size ≤ b) :
    Calls Try.prog 63 #[.pointer (some ⟨g, 0, none⟩), arv a, .int .i64 at_, .slice A n c] w1 fun e w' => e = .returned (.tuple #[.int .i64 (logWR s a at_ rec).2.1, .int .i64 ((logWR s a at_ rec).2.2 : Int)]) ∧ Dev2 w0 w' g (logWR s a at_ rec).1 g2 s2 := by
  obtain ⟨hb, F, G, h1, h2, h3⟩ := h
  have hb' := hb.trans (hb1.mono hb.size)
  exact (lgWrite_calls w0.heap.size g F s w1 a at_ A n c B rec (h1.keep hb1) hb'.size hf hlo hs hc (fun hp b off e hm => by
    have := h1.lt b hm
    rcases hne hp b off e with h | h <;> omega)).mono fun e w' ⟨he, hp⟩ => ⟨he, Dev2.on hb' (h1.keep hb1) (h2.keep hb1) h3 hp⟩
theorem d2_flush (h : Dev2 w0 w g s g2 s2) (hf : fuseOK s) : Calls Try.prog 31 #[.pointer (some ⟨g, 0, none⟩)] w fun e w' => e = .returned (.int .i64 (flushE s : Int)) ∧ Dev2 w0 w' g (flushD s) g2 s2 := by
  obtain ⟨hb, F, G, h1, h2, h3⟩ := h
  exact (dFlush_calls w0.heap.size g F s w h1 hf.1 hf.2).mono fun e w' hp => ⟨(DevAt.of_post hp).1, Dev2.on hb h1 h2 h3 (DevAt.of_post hp).2⟩
theorem d2_crash (nk ck : Nat) (Ak : Option Addr) (keep : List Bool) (t : Int) (h : Dev2 w0 w g s g2 s2) (hf : fuseOK s) (hb1 : Below w.heap.size w w1) (hk : KB w1 Ak nk keep) (hne : 0 < nk → ∀ b off, Ak = some ⟨b, off, none⟩ → b < w0.heap.size ∨ w.heap.size ≤ b) (hnk : nk ≤ 1099511627776) :
    Calls Try.prog 13 #[.pointer (some ⟨g, 0, none⟩), .slice Ak nk ck, .int .i64 t] w1 fun e w' => e = .returned (.int .i64 (crashE t : Int)) ∧ Dev2 w0 w' g (crashD s keep t) g2 s2 := by
  obtain ⟨hb, F, G, h1, h2, h3⟩ := h
  have hb' := hb.trans (hb1.mono hb.size)
  exact (dCrash_calls w0.heap.size g F s w1 nk ck Ak keep t (h1.keep hb1) hf.2 hk (fun hn b off e hm => by
    have := h1.lt b hm
    rcases hne hn b off e with h | h <;> omega) hnk).mono fun e w' hp => ⟨(DevAt.of_post hp).1, Dev2.on hb' (h1.keep hb1) (h2.keep hb1) h3 (DevAt.of_post hp).2⟩
end
/-- a list of slices that a call made -/
theorem sl_new (w : World) (t : TypeId) (us : List Value) (l : List (List UInt8)) (hn : us.length = l.length)
    (each : ∀ (k : Nat) x u, l[k]? = some x → us[k]? = some u → ∃ B A' c, u = .slice A' x.length c ∧ SB w B A' x.length x ∧ x.length ≤ c) : SL (w.alloc (.cells us.toArray t)) (some ⟨w.heap.size, 0, none⟩) l := by
  refine ⟨us, hn, fun _ => ⟨w.heap.size, 0, rfl, fun j u hj => ?_⟩, fun k x u hx hu => ?_⟩
  · rw [Nat.zero_add]
    exact (Blk.new w t us.toArray).cell j (by simpa using hj)
  · obtain ⟨B, A', c, e, hs, hc⟩ := each k x u hx hu
    exact ⟨B, A', c, e, hs.keep (below_new w _), hc⟩
end Go.Proofs.Ytgldhmmfofnmiaa
