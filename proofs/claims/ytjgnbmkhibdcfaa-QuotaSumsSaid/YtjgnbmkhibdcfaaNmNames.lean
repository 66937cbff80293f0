/- Names of repositories that are written out: the project's Repo at texts of ASCII. -/
import Derived.Test.YtjgnbmkhibdcfaaNmRepo
import Derived.Test.YtjgnbmkhibdcfaaPart
namespace Go.Proofs.Ytjgnbmkhibdcfaa
open Go.RowKit
attribute [local go_sem] eql_func eql_none run_mkF

/-- where the machine stands behind some bytes -/
def rrun (l : List UInt8) : Option (FuncId × Nat) := l.foldl (fun st b => st.bind fun x => rstep x.1 x.2 (b.toNat : Int)) (some (BG, 1))
theorem rrun_snoc (l : List UInt8) (b : UInt8) : rrun (l ++ [b]) = (rrun l).bind fun x => rstep x.1 x.2 (b.toNat : Int) := by simp [rrun]
def RState (k : FuncId) : Prop := k = BG ∨ k = IN ∨ k = LN ∨ k = DS
theorem rstep_keeps {k : FuncId} {p : Nat} {c : Int} {x : FuncId × Nat} (h : rstep k p c = some x) (hp : p ≤ 8) : (c ≠ -1 → RState x.1) ∧ x.2 ≤ 8 := by
  unfold rstep at h
  unfold RState
  repeat' split at h
  all_goals first
    | (cases h; done)
    | (cases h; exact ⟨fun hn => absurd ‹c = -1› hn, hp⟩)
    | (cases h; exact ⟨fun _ => by simp, hp⟩)
    | (cases h; exact ⟨fun _ => by simp, by show p + 1 ≤ 8; omega⟩)
def RI (l : List UInt8) (g pos : Nat) (k : FuncId) (first cs : Array Value) : Prop :=
  pos ≤ l.length ∧ ∃ p, rrun (l.take pos) = some (k, p) ∧ RState k ∧ p ≤ 8 ∧ first = ptr g ∧ cs = rpcells g p
def RStop (l : List UInt8) (pos : Nat) : Prop := (rrun (l.take pos)).isSome = true ∧ (if pos < l.length then rrun (l.take (pos + 1)) = none else ((rrun l).bind fun x => rstep x.1 x.2 (-1)) = none)
def RDone (l : List UInt8) : Prop := (rrun l).isSome = true ∧ ((rrun l).bind fun x => rstep x.1 x.2 (-1)).isSome = true

theorem repo_step (s : ByteArray) (l : List UInt8) (hl : l = s.data.toList) (ha : ∀ b ∈ l, b.toNat < 128) (g : Nat) : ∀ pos k first cs c wr, pos < s.size → RI l g pos k first cs → Blk wr g 115 cs → True → IsChar c → (c = (Utf8.decode s pos).1 ∨ (Utf8.decode s pos).1 = 65533 ∧ c = -2) →
    Enters' k ∧ Calls Try.prog k (first ++ #[.int .i32 c]) wr (Took g 115 wr (RStop l pos) (RI l g (pos + (Utf8.decode s pos).2))) := by
  intro pos k first cs c wr hlt hI hb _ _ hdec
  obtain ⟨h1, p, hr, hk, hp, rfl, rfl⟩ := hI
  have hlen : l.length = s.size := by rw [hl]; rfl
  have hlt2 : pos < l.length := by omega
  have hbyte : (s[pos]'hlt).toNat = (l[pos]'hlt2).toNat := by subst hl; rfl
  have hasc : (s[pos]'hlt).toNat < 128 := by rw [hbyte]; exact ha _ (List.getElem_mem hlt2)
  rw [decode_ascii s pos hlt hasc] at hdec ⊢
  have hc : c = ((l[pos]'hlt2).toNat : Int) := by
    rcases hdec with h | ⟨h, _⟩
    · rw [h, hbyte]
    · simp only at h; omega
  subst hc
  obtain ⟨he, hcall⟩ := repo_goes g p hp k hk ((l[pos]'hlt2).toNat : Int) wr hb
  refine ⟨he, hcall.mono ?_⟩
  have hnext : rrun (l.take (pos + 1)) = rstep k p ((l[pos]'hlt2).toNat : Int) := by
    rw [List.take_add_one, List.getElem?_eq_getElem hlt2, Option.toList_some, rrun_snoc, hr]; rfl
  rintro e w' ⟨gx, hm⟩
  refine ⟨gx, ?_⟩
  cases hs : rstep k p ((l[pos]'hlt2).toNat : Int) with
  | none =>
    rw [hs] at hm
    exact .inl ⟨hm, by rw [hr]; rfl, by rw [if_pos hlt2, hnext, hs]⟩
  | some x =>
    rw [hs] at hm
    obtain ⟨hk2, hp2⟩ := rstep_keeps hs hp
    have hk2 := hk2 (by omega)
    have hne : x.1 ≠ EN := by rcases hk2 with h | h | h | h <;> rw [h] <;> decide
    obtain ⟨hm1, hm2⟩ := hm
    rw [if_neg hne] at hm1
    exact .inr ⟨_, _, _, hm1, ⟨hlt2, x.2, by rw [hnext, hs], hk2, hp2, rfl, rfl⟩, hm2⟩
theorem repo_end (s : ByteArray) (l : List UInt8) (hl : l = s.data.toList) (g : Nat) : ∀ k first cs wr, RI l g s.size k first cs → Blk wr g 115 cs → True →
    Enters' k ∧ Calls Try.prog k (first ++ #[.int .i32 (-1)]) wr (Took g 115 wr (RStop l s.size) (fun _ _ _ => RDone l)) := by
  intro k first cs wr hI hb _
  obtain ⟨h1, p, hr, hk, hp, rfl, rfl⟩ := hI
  have hlen : l.length = s.size := by rw [hl]; rfl
  rw [← hlen, List.take_length] at hr
  obtain ⟨he, hcall⟩ := repo_goes g p hp k hk (-1) wr hb
  refine ⟨he, hcall.mono ?_⟩
  rintro e w' ⟨gx, hm⟩
  refine ⟨gx, ?_⟩
  cases hs : rstep k p (-1) with
  | none =>
    rw [hs] at hm
    exact .inl ⟨hm, by rw [← hlen, List.take_length, hr]; rfl, by rw [if_neg (by omega), hr]; exact hs⟩
  | some x =>
    rw [hs] at hm
    exact .inr ⟨_, _, _, hm.1, ⟨by rw [hr]; rfl, by rw [hr]; show (rstep k p (-1)).isSome = true; rw [hs]; rfl⟩, hm.2⟩
end Go.Proofs.Ytjgnbmkhibdcfaa
