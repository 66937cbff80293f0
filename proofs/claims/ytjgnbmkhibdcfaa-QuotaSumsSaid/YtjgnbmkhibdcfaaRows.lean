/-
  No cell of these rows narrows 'for every input' (looked for: loops, veiled, ifaces, maps, wideKeys, modest, calm, conditions, laid).
  DERIVED. THE GIVEN ROWS OF THIS SEAT. 5 by the template 'for every input the law returns true; each argument reads behind the call as it read before'; 0 by the template 'total and deterministic' (their statements: YtjgnbmkhibdcfaaTotals.lean).
  GIVEN WITH THE SEED: the statements are not yours to turn. If you find one false, say at which input.
  Laid BY PROGRAM, IN A SANDBOX (cutbox-rows.mjs): the forced cells as the released guide's own fill.sh prints them over the translation ae55541e40f101d9… (all of the seat's roots in one cut). By AI agents, Wed Nov 11 2026. No macro, syntax, notation, axiom, sorry.
-/
import Derived.Test.YtjgnbmkhibdcfaaChecked
import GoSem.Claim
import GoSem.ClaimJoined
import GoSem.ClaimMapViews
import Derived.JoinedTies
import Derived.KernelRfl
namespace Go.Proofs.Ytjgnbmkhibdcfaa
/- THE CELL 'sum', in the pinned program and in every row, IS THE sha256 OF THE DUMP (.gsa) THAT YtjgnbmkhibdcfaaProg.lean LOADS. Nothing in Lean hashes anything: it is a label: what it is worth is what the hold of that sum in a sandbox is worth. -/
noncomputable def Try.pinned : Pinned := { name := "ytjgnbmkhibdcfaa", sum := "ae55541e40f101d9fa885d185bef17dd31ea273512015190f8daa050ab8f57c4", checked := Try.checked }
namespace Rows
def none {H : Type} : Left H := { results := [], args := [] }

/-- 'entrepotlaw10.QuotaActs': WHATEVER THE INPUT: true; the input reads as it did. -/
def quotaActsSpec : ChangeSpec := { name := "quotaActs", fn := fun _ => fun
  | [d1, d2] => { results := [.lit (.bool true)], args := [d1, d2] }
  | _ => none }
def quotaActsRow : OpenClaim := { program := "ytjgnbmkhibdcfaa", sum := "ae55541e40f101d9fa885d185bef17dd31ea273512015190f8daa050ab8f57c4", func := "entrepot/entrepotlaw10.QuotaActs", spec := "quotaActs", inPlace := ["internal/bytealg.abigen_runtime_cmpstring", "internal/bytealg.Compare"], unfollowed := true, recurses := true, plainKeys := false, apart := false }
def QuotaActsSaid : Prop := quotaActsRow.holds Try.pinned (OpenSpec.ofChange quotaActsSpec)

/-- ITS FALSE NEIGHBOUR: 'it returns false'. Refute it at one input. -/
def quotaActsWrong : ChangeSpec := { name := "quotaActs", fn := fun _ => fun
  | [d1, d2] => { results := [.lit (.bool false)], args := [d1, d2] }
  | _ => none }
def QuotaActsWrongFalsely : Prop := quotaActsRow.holds Try.pinned (OpenSpec.ofChange quotaActsWrong)

/-- 'entrepotlaw10.QuotaNone': WHATEVER THE INPUT: true; the input reads as it did. -/
def quotaNoneSpec : ChangeSpec := { name := "quotaNone", fn := fun _ => fun
  | [d1, d2, d3, d4] => { results := [.lit (.bool true)], args := [d1, d2, d3, d4] }
  | _ => none }
def quotaNoneRow : OpenClaim := { program := "ytjgnbmkhibdcfaa", sum := "ae55541e40f101d9fa885d185bef17dd31ea273512015190f8daa050ab8f57c4", func := "entrepot/entrepotlaw10.QuotaNone", spec := "quotaNone", inPlace := ["internal/bytealg.abigen_runtime_cmpstring", "internal/bytealg.Compare"], unfollowed := true, recurses := true, plainKeys := false, apart := false }
def QuotaNoneSaid : Prop := quotaNoneRow.holds Try.pinned (OpenSpec.ofChange quotaNoneSpec)

/-- ITS FALSE NEIGHBOUR: 'it returns false'. Refute it at one input. -/
def quotaNoneWrong : ChangeSpec := { name := "quotaNone", fn := fun _ => fun
  | [d1, d2, d3, d4] => { results := [.lit (.bool false)], args := [d1, d2, d3, d4] }
  | _ => none }
def QuotaNoneWrongFalsely : Prop := quotaNoneRow.holds Try.pinned (OpenSpec.ofChange quotaNoneWrong)

/-- 'entrepotlaw10.QuotaKnown': WHATEVER THE INPUT: true; the input reads as it did. -/
def quotaKnownSpec : ChangeSpec := { name := "quotaKnown", fn := fun _ => fun
  | [] => { results := [.lit (.bool true)], args := [] }
  | _ => none }
def quotaKnownRow : OpenClaim := { program := "ytjgnbmkhibdcfaa", sum := "ae55541e40f101d9fa885d185bef17dd31ea273512015190f8daa050ab8f57c4", func := "entrepot/entrepotlaw10.QuotaKnown", spec := "quotaKnown", inPlace := ["internal/bytealg.abigen_runtime_cmpstring", "internal/bytealg.Compare"], unfollowed := true, recurses := true, plainKeys := false, apart := false }
def QuotaKnownSaid : Prop := quotaKnownRow.holds Try.pinned (OpenSpec.ofChange quotaKnownSpec)

/-- ITS FALSE NEIGHBOUR: 'it returns false'. Refute it at one input. -/
def quotaKnownWrong : ChangeSpec := { name := "quotaKnown", fn := fun _ => fun
  | [] => { results := [.lit (.bool false)], args := [] }
  | _ => none }
def QuotaKnownWrongFalsely : Prop := quotaKnownRow.holds Try.pinned (OpenSpec.ofChange quotaKnownWrong)

/-- 'entrepotlaw10.QuotaSums': WHATEVER THE INPUT: true; the input reads as it did. -/
def quotaSumsSpec : ChangeSpec := { name := "quotaSums", fn := fun _ => fun
  | [d1, d2] => { results := [.lit (.bool true)], args := [d1, d2] }
  | _ => none }
def quotaSumsRow : OpenClaim := { program := "ytjgnbmkhibdcfaa", sum := "ae55541e40f101d9fa885d185bef17dd31ea273512015190f8daa050ab8f57c4", func := "entrepot/entrepotlaw10.QuotaSums", spec := "quotaSums", inPlace := ["internal/bytealg.abigen_runtime_cmpstring", "internal/bytealg.Compare"], unfollowed := true, recurses := true, plainKeys := false, apart := false }
def QuotaSumsSaid : Prop := quotaSumsRow.holds Try.pinned (OpenSpec.ofChange quotaSumsSpec)

/-- ITS FALSE NEIGHBOUR: 'it returns false'. Refute it at one input. -/
def quotaSumsWrong : ChangeSpec := { name := "quotaSums", fn := fun _ => fun
  | [d1, d2] => { results := [.lit (.bool false)], args := [d1, d2] }
  | _ => none }
def QuotaSumsWrongFalsely : Prop := quotaSumsRow.holds Try.pinned (OpenSpec.ofChange quotaSumsWrong)

/-- 'entrepotlaw10.QuotaForgets': WHATEVER THE INPUT: true; the input reads as it did. -/
def quotaForgetsSpec : ChangeSpec := { name := "quotaForgets", fn := fun _ => fun
  | [d1, d2] => { results := [.lit (.bool true)], args := [d1, d2] }
  | _ => none }
def quotaForgetsRow : OpenClaim := { program := "ytjgnbmkhibdcfaa", sum := "ae55541e40f101d9fa885d185bef17dd31ea273512015190f8daa050ab8f57c4", func := "entrepot/entrepotlaw10.QuotaForgets", spec := "quotaForgets", inPlace := ["internal/bytealg.abigen_runtime_cmpstring", "internal/bytealg.Compare"], unfollowed := true, recurses := true, plainKeys := false, apart := false }
def QuotaForgetsSaid : Prop := quotaForgetsRow.holds Try.pinned (OpenSpec.ofChange quotaForgetsSpec)

/-- ITS FALSE NEIGHBOUR: 'it returns false'. Refute it at one input. -/
def quotaForgetsWrong : ChangeSpec := { name := "quotaForgets", fn := fun _ => fun
  | [d1, d2] => { results := [.lit (.bool false)], args := [d1, d2] }
  | _ => none }
def QuotaForgetsWrongFalsely : Prop := quotaForgetsRow.holds Try.pinned (OpenSpec.ofChange quotaForgetsWrong)

/- THE SECOND FORM. 'bulk': how many values and letters a reading holds, each counted each time it is reached (what is shared counts as often as it is met; a slice's spare places count too). A statement '..UptoSaid' is the law's where the arguments, and the package variables that the reading takes, are together of bulk at most 1048576: NARROWER than '..Said'. Prove '..Said' where nothing that the law and all that it calls make is longer than what came in: it says more and counts as full. Else prove '..UptoSaid'. A law counts once. -/
mutual
def uptoBulk {H : Type} : DataW H → Nat
  | .lit (.string bytes) => bytes.length + 1
  | .lit _ => 1
  | .nil => 1
  | .ptr d => uptoBulk d + 1
  | .slice elems spare => uptoBulkAll elems + uptoBulkAll spare + 1
  | .agg parts => uptoBulkAll parts + 1
  | .iface _ d => uptoBulk d + 1
  | .map entries => uptoBulkEntries entries + 1
  | .held _ => 1
def uptoBulkAll {H : Type} : List (DataW H) → Nat
  | [] => 0
  | d :: r => uptoBulk d + uptoBulkAll r
def uptoBulkEntries {H : Type} : List (Lit × DataW H) → Nat
  | [] => 0
  | x :: r => uptoBulkEntry x + uptoBulkEntries r
def uptoBulkEntry {H : Type} : Lit × DataW H → Nat
  | (.string bytes, d) => bytes.length + uptoBulk d + 1
  | (_, d) => uptoBulk d + 1
 end
def uptoSmall : (H : Type) → List (DataW H) → Bool := fun _ ds => decide (uptoBulkAll ds ≤ 1048576)
def OpenSpec.upto (s : _root_.Go.ChangeSpec) : _root_.Go.OpenSpec := { _root_.Go.OpenSpec.ofChange s with cond := some uptoSmall }

/-- 'entrepotlaw10.QuotaActs', WHERE WHAT IT READS IS OF BULK AT MOST 1048576: true; the input reads as it did. -/
def quotaActsUptoRow : OpenClaim := { program := "ytjgnbmkhibdcfaa", sum := "ae55541e40f101d9fa885d185bef17dd31ea273512015190f8daa050ab8f57c4", func := "entrepot/entrepotlaw10.QuotaActs", spec := "quotaActs", inPlace := ["internal/bytealg.abigen_runtime_cmpstring", "internal/bytealg.Compare"], unfollowed := true, recurses := true, plainKeys := false, apart := false, narrowed := true }
def QuotaActsUptoSaid : Prop := quotaActsUptoRow.holds Try.pinned (OpenSpec.upto quotaActsSpec)

/-- 'entrepotlaw10.QuotaNone', WHERE WHAT IT READS IS OF BULK AT MOST 1048576: true; the input reads as it did. -/
def quotaNoneUptoRow : OpenClaim := { program := "ytjgnbmkhibdcfaa", sum := "ae55541e40f101d9fa885d185bef17dd31ea273512015190f8daa050ab8f57c4", func := "entrepot/entrepotlaw10.QuotaNone", spec := "quotaNone", inPlace := ["internal/bytealg.abigen_runtime_cmpstring", "internal/bytealg.Compare"], unfollowed := true, recurses := true, plainKeys := false, apart := false, narrowed := true }
def QuotaNoneUptoSaid : Prop := quotaNoneUptoRow.holds Try.pinned (OpenSpec.upto quotaNoneSpec)

/-- 'entrepotlaw10.QuotaKnown', WHERE WHAT IT READS IS OF BULK AT MOST 1048576: true; the input reads as it did. -/
def quotaKnownUptoRow : OpenClaim := { program := "ytjgnbmkhibdcfaa", sum := "ae55541e40f101d9fa885d185bef17dd31ea273512015190f8daa050ab8f57c4", func := "entrepot/entrepotlaw10.QuotaKnown", spec := "quotaKnown", inPlace := ["internal/bytealg.abigen_runtime_cmpstring", "internal/bytealg.Compare"], unfollowed := true, recurses := true, plainKeys := false, apart := false, narrowed := true }
def QuotaKnownUptoSaid : Prop := quotaKnownUptoRow.holds Try.pinned (OpenSpec.upto quotaKnownSpec)

/-- 'entrepotlaw10.QuotaSums', WHERE WHAT IT READS IS OF BULK AT MOST 1048576: true; the input reads as it did. -/
def quotaSumsUptoRow : OpenClaim := { program := "ytjgnbmkhibdcfaa", sum := "ae55541e40f101d9fa885d185bef17dd31ea273512015190f8daa050ab8f57c4", func := "entrepot/entrepotlaw10.QuotaSums", spec := "quotaSums", inPlace := ["internal/bytealg.abigen_runtime_cmpstring", "internal/bytealg.Compare"], unfollowed := true, recurses := true, plainKeys := false, apart := false, narrowed := true }
def QuotaSumsUptoSaid : Prop := quotaSumsUptoRow.holds Try.pinned (OpenSpec.upto quotaSumsSpec)

/-- 'entrepotlaw10.QuotaForgets', WHERE WHAT IT READS IS OF BULK AT MOST 1048576: true; the input reads as it did. -/
def quotaForgetsUptoRow : OpenClaim := { program := "ytjgnbmkhibdcfaa", sum := "ae55541e40f101d9fa885d185bef17dd31ea273512015190f8daa050ab8f57c4", func := "entrepot/entrepotlaw10.QuotaForgets", spec := "quotaForgets", inPlace := ["internal/bytealg.abigen_runtime_cmpstring", "internal/bytealg.Compare"], unfollowed := true, recurses := true, plainKeys := false, apart := false, narrowed := true }
def QuotaForgetsUptoSaid : Prop := quotaForgetsUptoRow.holds Try.pinned (OpenSpec.upto quotaForgetsSpec)

end Rows
end Go.Proofs.Ytjgnbmkhibdcfaa
