/-
  No cell of these rows narrows 'for every input' (looked for: loops, veiled, ifaces, maps, wideKeys, modest, calm, conditions, laid).
  DERIVED. THE GIVEN ROWS OF THIS SEAT. 5 by the template 'for every input the law returns true; each argument reads behind the call as it read before'; 0 by the template 'total and deterministic' (their statements: YthjflgnoeenenaaTotals.lean).
  GIVEN WITH THE SEED: the statements are not yours to turn. If you find one false, say at which input.
  Laid BY PROGRAM, IN A SANDBOX (cutbox-rows.mjs): the forced cells as the released guide's own fill.sh prints them over the translation 0b4edf4ab420d16b… (all of the seat's roots in one cut). By AI agents, Wed Nov 11 2026. No macro, syntax, notation, axiom, sorry.
-/
import Derived.Test.YthjflgnoeenenaaChecked
import GoSem.Claim
import GoSem.ClaimJoined
import GoSem.ClaimMapViews
import Derived.JoinedTies
import Derived.KernelRfl
namespace Go.Proofs.Ythjflgnoeenenaa
/- THE CELL 'sum', in the pinned program and in every row, IS THE sha256 OF THE DUMP (.gsa) THAT YthjflgnoeenenaaProg.lean LOADS. Nothing in Lean hashes anything: it is a label: what it is worth is what the hold of that sum in a sandbox is worth. -/
noncomputable def Try.pinned : Pinned := { name := "ythjflgnoeenenaa", sum := "0b4edf4ab420d16b35051fa6191290efdd668976ad084d3853869f17c9cb045b", checked := Try.checked }
namespace Rows
def none {H : Type} : Left H := { results := [], args := [] }

/-- 'entrepotlaw15.CloudMakes': WHATEVER THE INPUT: true; the input reads as it did. -/
def cloudMakesSpec : ChangeSpec := { name := "cloudMakes", fn := fun _ => fun
  | [d1, d2, d3, d4, d5] => { results := [.lit (.bool true)], args := [d1, d2, d3, d4, d5] }
  | _ => none }
def cloudMakesRow : OpenClaim := { program := "ythjflgnoeenenaa", sum := "0b4edf4ab420d16b35051fa6191290efdd668976ad084d3853869f17c9cb045b", func := "entrepot/entrepotlaw15.CloudMakes", spec := "cloudMakes", unfollowed := true, recurses := true, apart := false }
def CloudMakesSaid : Prop := cloudMakesRow.holds Try.pinned (OpenSpec.ofChange cloudMakesSpec)

/-- ITS FALSE NEIGHBOUR: 'it returns false'. Refute it at one input. -/
def cloudMakesWrong : ChangeSpec := { name := "cloudMakes", fn := fun _ => fun
  | [d1, d2, d3, d4, d5] => { results := [.lit (.bool false)], args := [d1, d2, d3, d4, d5] }
  | _ => none }
def CloudMakesWrongFalsely : Prop := cloudMakesRow.holds Try.pinned (OpenSpec.ofChange cloudMakesWrong)

/-- 'entrepotlaw15.CloudJoins': WHATEVER THE INPUT: true; the input reads as it did. -/
def cloudJoinsSpec : ChangeSpec := { name := "cloudJoins", fn := fun _ => fun
  | [d1, d2] => { results := [.lit (.bool true)], args := [d1, d2] }
  | _ => none }
def cloudJoinsRow : OpenClaim := { program := "ythjflgnoeenenaa", sum := "0b4edf4ab420d16b35051fa6191290efdd668976ad084d3853869f17c9cb045b", func := "entrepot/entrepotlaw15.CloudJoins", spec := "cloudJoins", unfollowed := true, recurses := true, apart := false }
def CloudJoinsSaid : Prop := cloudJoinsRow.holds Try.pinned (OpenSpec.ofChange cloudJoinsSpec)

/-- ITS FALSE NEIGHBOUR: 'it returns false'. Refute it at one input. -/
def cloudJoinsWrong : ChangeSpec := { name := "cloudJoins", fn := fun _ => fun
  | [d1, d2] => { results := [.lit (.bool false)], args := [d1, d2] }
  | _ => none }
def CloudJoinsWrongFalsely : Prop := cloudJoinsRow.holds Try.pinned (OpenSpec.ofChange cloudJoinsWrong)

/-- 'entrepotlaw15.CloudKnown': WHATEVER THE INPUT: true; the input reads as it did. -/
def cloudKnownSpec : ChangeSpec := { name := "cloudKnown", fn := fun _ => fun
  | [] => { results := [.lit (.bool true)], args := [] }
  | _ => none }
def cloudKnownRow : OpenClaim := { program := "ythjflgnoeenenaa", sum := "0b4edf4ab420d16b35051fa6191290efdd668976ad084d3853869f17c9cb045b", func := "entrepot/entrepotlaw15.CloudKnown", spec := "cloudKnown", unfollowed := true, recurses := true, apart := false }
def CloudKnownSaid : Prop := cloudKnownRow.holds Try.pinned (OpenSpec.ofChange cloudKnownSpec)

/-- ITS FALSE NEIGHBOUR: 'it returns false'. Refute it at one input. -/
def cloudKnownWrong : ChangeSpec := { name := "cloudKnown", fn := fun _ => fun
  | [] => { results := [.lit (.bool false)], args := [] }
  | _ => none }
def CloudKnownWrongFalsely : Prop := cloudKnownRow.holds Try.pinned (OpenSpec.ofChange cloudKnownWrong)

/-- 'entrepotlaw15.CloudLattice': WHATEVER THE INPUT: true; the input reads as it did. -/
def cloudLatticeSpec : ChangeSpec := { name := "cloudLattice", fn := fun _ => fun
  | [d1, d2, d3] => { results := [.lit (.bool true)], args := [d1, d2, d3] }
  | _ => none }
def cloudLatticeRow : OpenClaim := { program := "ythjflgnoeenenaa", sum := "0b4edf4ab420d16b35051fa6191290efdd668976ad084d3853869f17c9cb045b", func := "entrepot/entrepotlaw15.CloudLattice", spec := "cloudLattice", unfollowed := true, recurses := true, apart := false }
def CloudLatticeSaid : Prop := cloudLatticeRow.holds Try.pinned (OpenSpec.ofChange cloudLatticeSpec)

/-- ITS FALSE NEIGHBOUR: 'it returns false'. Refute it at one input. -/
def cloudLatticeWrong : ChangeSpec := { name := "cloudLattice", fn := fun _ => fun
  | [d1, d2, d3] => { results := [.lit (.bool false)], args := [d1, d2, d3] }
  | _ => none }
def CloudLatticeWrongFalsely : Prop := cloudLatticeRow.holds Try.pinned (OpenSpec.ofChange cloudLatticeWrong)

/-- 'entrepotlaw15.CloudDots': WHATEVER THE INPUT: true; the input reads as it did. -/
def cloudDotsSpec : ChangeSpec := { name := "cloudDots", fn := fun _ => fun
  | [d1, d2, d3, d4] => { results := [.lit (.bool true)], args := [d1, d2, d3, d4] }
  | _ => none }
def cloudDotsRow : OpenClaim := { program := "ythjflgnoeenenaa", sum := "0b4edf4ab420d16b35051fa6191290efdd668976ad084d3853869f17c9cb045b", func := "entrepot/entrepotlaw15.CloudDots", spec := "cloudDots", unfollowed := true, recurses := true, apart := false }
def CloudDotsSaid : Prop := cloudDotsRow.holds Try.pinned (OpenSpec.ofChange cloudDotsSpec)

/-- ITS FALSE NEIGHBOUR: 'it returns false'. Refute it at one input. -/
def cloudDotsWrong : ChangeSpec := { name := "cloudDots", fn := fun _ => fun
  | [d1, d2, d3, d4] => { results := [.lit (.bool false)], args := [d1, d2, d3, d4] }
  | _ => none }
def CloudDotsWrongFalsely : Prop := cloudDotsRow.holds Try.pinned (OpenSpec.ofChange cloudDotsWrong)

/- THE SECOND FORM. 'bulk': how many values and letters a reading holds, each counted each time it is reached (what is shared counts as often as it is met; a slice's spare places count too). A statement '..UptoSaid' is the law's where the arguments, and the package variables that the reading takes, are together of bulk at most 1048576: NARROWER than '..Said'. Prove '..Said' where nothing that the law and all that it calls make is longer than what came in: it says more and counts as full. Else prove '..UptoSaid'. A law counts once. -/
mutual
def uptoBulk {H : Type} : DataW H → Nat
  | .lit (.string bytes) => bytes.length + 1
  | .lit _ => 1
  | .nil => 1
  | .ptr d => uptoBulk d + 1
  | .slice elems spare => uptoBulkAll elems + uptoBulkAll spare + 1
  | .agg parts => uptoBulkAll parts + 1
  | .iface _ d => uptoBulk d + 1
  | .map entries => uptoBulkEntries entries + 1
  | .held _ => 1
def uptoBulkAll {H : Type} : List (DataW H) → Nat
  | [] => 0
  | d :: r => uptoBulk d + uptoBulkAll r
def uptoBulkEntries {H : Type} : List (Lit × DataW H) → Nat
  | [] => 0
  | x :: r => uptoBulkEntry x + uptoBulkEntries r
def uptoBulkEntry {H : Type} : Lit × DataW H → Nat
  | (.string bytes, d) => bytes.length + uptoBulk d + 1
  | (_, d) => uptoBulk d + 1
 end
def uptoSmall : (H : Type) → List (DataW H) → Bool := fun _ ds => decide (uptoBulkAll ds ≤ 1048576)
def OpenSpec.upto (s : _root_.Go.ChangeSpec) : _root_.Go.OpenSpec := { _root_.Go.OpenSpec.ofChange s with cond := some uptoSmall }

/-- 'entrepotlaw15.CloudMakes', WHERE WHAT IT READS IS OF BULK AT MOST 1048576: true; the input reads as it did. -/
def cloudMakesUptoRow : OpenClaim := { program := "ythjflgnoeenenaa", sum := "0b4edf4ab420d16b35051fa6191290efdd668976ad084d3853869f17c9cb045b", func := "entrepot/entrepotlaw15.CloudMakes", spec := "cloudMakes", unfollowed := true, recurses := true, apart := false, narrowed := true }
def CloudMakesUptoSaid : Prop := cloudMakesUptoRow.holds Try.pinned (OpenSpec.upto cloudMakesSpec)

/-- 'entrepotlaw15.CloudJoins', WHERE WHAT IT READS IS OF BULK AT MOST 1048576: true; the input reads as it did. -/
def cloudJoinsUptoRow : OpenClaim := { program := "ythjflgnoeenenaa", sum := "0b4edf4ab420d16b35051fa6191290efdd668976ad084d3853869f17c9cb045b", func := "entrepot/entrepotlaw15.CloudJoins", spec := "cloudJoins", unfollowed := true, recurses := true, apart := false, narrowed := true }
def CloudJoinsUptoSaid : Prop := cloudJoinsUptoRow.holds Try.pinned (OpenSpec.upto cloudJoinsSpec)

/-- 'entrepotlaw15.CloudKnown', WHERE WHAT IT READS IS OF BULK AT MOST 1048576: true; the input reads as it did. -/
def cloudKnownUptoRow : OpenClaim := { program := "ythjflgnoeenenaa", sum := "0b4edf4ab420d16b35051fa6191290efdd668976ad084d3853869f17c9cb045b", func := "entrepot/entrepotlaw15.CloudKnown", spec := "cloudKnown", unfollowed := true, recurses := true, apart := false, narrowed := true }
def CloudKnownUptoSaid : Prop := cloudKnownUptoRow.holds Try.pinned (OpenSpec.upto cloudKnownSpec)

/-- 'entrepotlaw15.CloudLattice', WHERE WHAT IT READS IS OF BULK AT MOST 1048576: true; the input reads as it did. -/
def cloudLatticeUptoRow : OpenClaim := { program := "ythjflgnoeenenaa", sum := "0b4edf4ab420d16b35051fa6191290efdd668976ad084d3853869f17c9cb045b", func := "entrepot/entrepotlaw15.CloudLattice", spec := "cloudLattice", unfollowed := true, recurses := true, apart := false, narrowed := true }
def CloudLatticeUptoSaid : Prop := cloudLatticeUptoRow.holds Try.pinned (OpenSpec.upto cloudLatticeSpec)

/-- 'entrepotlaw15.CloudDots', WHERE WHAT IT READS IS OF BULK AT MOST 1048576: true; the input reads as it did. -/
def cloudDotsUptoRow : OpenClaim := { program := "ythjflgnoeenenaa", sum := "0b4edf4ab420d16b35051fa6191290efdd668976ad084d3853869f17c9cb045b", func := "entrepot/entrepotlaw15.CloudDots", spec := "cloudDots", unfollowed := true, recurses := true, apart := false, narrowed := true }
def CloudDotsUptoSaid : Prop := cloudDotsUptoRow.holds Try.pinned (OpenSpec.upto cloudDotsSpec)

end Rows
end Go.Proofs.Ythjflgnoeenenaa
