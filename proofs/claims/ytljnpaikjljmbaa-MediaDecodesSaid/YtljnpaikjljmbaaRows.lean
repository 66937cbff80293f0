/-
  No cell of these rows narrows 'for every input' (looked for: loops, veiled, ifaces, maps, wideKeys, modest, calm, conditions, laid).
  DERIVED. THE GIVEN ROWS OF THIS SEAT. 5 by the template 'for every input the law returns true; each argument reads behind the call as it read before'; 0 by the template 'total and deterministic' (their statements: YtljnpaikjljmbaaTotals.lean).
  GIVEN WITH THE SEED: the statements are not yours to turn. If you find one false, say at which input.
  Laid BY PROGRAM, IN A SANDBOX (cutbox-rows.mjs): the forced cells as the released guide's own fill.sh prints them over the translation ee90e1f53842f9d3… (all of the seat's roots in one cut). By AI agents, Wed Nov 11 2026. No macro, syntax, notation, axiom, sorry.
-/
import Derived.Test.YtljnpaikjljmbaaChecked
import GoSem.Claim
import GoSem.ClaimJoined
import GoSem.ClaimMapViews
import Derived.JoinedTies
import Derived.KernelRfl
namespace Go.Proofs.Ytljnpaikjljmbaa
/- THE CELL 'sum', in the pinned program and in every row, IS THE sha256 OF THE DUMP (.gsa) THAT YtljnpaikjljmbaaProg.lean LOADS. Nothing in Lean hashes anything: it is a label: what it is worth is what the hold of that sum in a sandbox is worth. -/
noncomputable def Try.pinned : Pinned := { name := "ytljnpaikjljmbaa", sum := "ee90e1f53842f9d30e7019ebf66a3551385a8303ab2fabc1633bed333e1ded21", checked := Try.checked }
namespace Rows
def none {H : Type} : Left H := { results := [], args := [] }

/-- 'entrepotlaw11.MediaEncodes': WHATEVER THE INPUT: true; the input reads as it did. -/
def mediaEncodesSpec : ChangeSpec := { name := "mediaEncodes", fn := fun _ => fun
  | [d] => { results := [.lit (.bool true)], args := [d] }
  | _ => none }
def mediaEncodesRow : OpenClaim := { program := "ytljnpaikjljmbaa", sum := "ee90e1f53842f9d30e7019ebf66a3551385a8303ab2fabc1633bed333e1ded21", func := "entrepot/entrepotlaw11.MediaEncodes", spec := "mediaEncodes", unfollowed := true, recurses := true, apart := false }
def MediaEncodesSaid : Prop := mediaEncodesRow.holds Try.pinned (OpenSpec.ofChange mediaEncodesSpec)

/-- ITS FALSE NEIGHBOUR: 'it returns false'. Refute it at one input. -/
def mediaEncodesWrong : ChangeSpec := { name := "mediaEncodes", fn := fun _ => fun
  | [d] => { results := [.lit (.bool false)], args := [d] }
  | _ => none }
def MediaEncodesWrongFalsely : Prop := mediaEncodesRow.holds Try.pinned (OpenSpec.ofChange mediaEncodesWrong)

/-- 'entrepotlaw11.MediaDecodes': WHATEVER THE INPUT: true; the input reads as it did. -/
def mediaDecodesSpec : ChangeSpec := { name := "mediaDecodes", fn := fun _ => fun
  | [d] => { results := [.lit (.bool true)], args := [d] }
  | _ => none }
def mediaDecodesRow : OpenClaim := { program := "ytljnpaikjljmbaa", sum := "ee90e1f53842f9d30e7019ebf66a3551385a8303ab2fabc1633bed333e1ded21", func := "entrepot/entrepotlaw11.MediaDecodes", spec := "mediaDecodes", unfollowed := true, recurses := true, apart := false }
def MediaDecodesSaid : Prop := mediaDecodesRow.holds Try.pinned (OpenSpec.ofChange mediaDecodesSpec)

/-- ITS FALSE NEIGHBOUR: 'it returns false'. Refute it at one input. -/
def mediaDecodesWrong : ChangeSpec := { name := "mediaDecodes", fn := fun _ => fun
  | [d] => { results := [.lit (.bool false)], args := [d] }
  | _ => none }
def MediaDecodesWrongFalsely : Prop := mediaDecodesRow.holds Try.pinned (OpenSpec.ofChange mediaDecodesWrong)

/-- 'entrepotlaw11.MediaKnown': WHATEVER THE INPUT: true; the input reads as it did. -/
def mediaKnownSpec : ChangeSpec := { name := "mediaKnown", fn := fun _ => fun
  | [] => { results := [.lit (.bool true)], args := [] }
  | _ => none }
def mediaKnownRow : OpenClaim := { program := "ytljnpaikjljmbaa", sum := "ee90e1f53842f9d30e7019ebf66a3551385a8303ab2fabc1633bed333e1ded21", func := "entrepot/entrepotlaw11.MediaKnown", spec := "mediaKnown", unfollowed := true, recurses := true, apart := false }
def MediaKnownSaid : Prop := mediaKnownRow.holds Try.pinned (OpenSpec.ofChange mediaKnownSpec)

/-- ITS FALSE NEIGHBOUR: 'it returns false'. Refute it at one input. -/
def mediaKnownWrong : ChangeSpec := { name := "mediaKnown", fn := fun _ => fun
  | [] => { results := [.lit (.bool false)], args := [] }
  | _ => none }
def MediaKnownWrongFalsely : Prop := mediaKnownRow.holds Try.pinned (OpenSpec.ofChange mediaKnownWrong)

/-- 'entrepotlaw11.MediaBack': WHATEVER THE INPUT: true; the input reads as it did. -/
def mediaBackSpec : ChangeSpec := { name := "mediaBack", fn := fun _ => fun
  | [d1, d2, d3] => { results := [.lit (.bool true)], args := [d1, d2, d3] }
  | _ => none }
def mediaBackRow : OpenClaim := { program := "ytljnpaikjljmbaa", sum := "ee90e1f53842f9d30e7019ebf66a3551385a8303ab2fabc1633bed333e1ded21", func := "entrepot/entrepotlaw11.MediaBack", spec := "mediaBack", unfollowed := true, recurses := true, apart := false }
def MediaBackSaid : Prop := mediaBackRow.holds Try.pinned (OpenSpec.ofChange mediaBackSpec)

/-- ITS FALSE NEIGHBOUR: 'it returns false'. Refute it at one input. -/
def mediaBackWrong : ChangeSpec := { name := "mediaBack", fn := fun _ => fun
  | [d1, d2, d3] => { results := [.lit (.bool false)], args := [d1, d2, d3] }
  | _ => none }
def MediaBackWrongFalsely : Prop := mediaBackRow.holds Try.pinned (OpenSpec.ofChange mediaBackWrong)

/-- 'entrepotlaw11.MediaOne': WHATEVER THE INPUT: true; the input reads as it did. -/
def mediaOneSpec : ChangeSpec := { name := "mediaOne", fn := fun _ => fun
  | [d1, d2, d3] => { results := [.lit (.bool true)], args := [d1, d2, d3] }
  | _ => none }
def mediaOneRow : OpenClaim := { program := "ytljnpaikjljmbaa", sum := "ee90e1f53842f9d30e7019ebf66a3551385a8303ab2fabc1633bed333e1ded21", func := "entrepot/entrepotlaw11.MediaOne", spec := "mediaOne", unfollowed := true, recurses := true, apart := false }
def MediaOneSaid : Prop := mediaOneRow.holds Try.pinned (OpenSpec.ofChange mediaOneSpec)

/-- ITS FALSE NEIGHBOUR: 'it returns false'. Refute it at one input. -/
def mediaOneWrong : ChangeSpec := { name := "mediaOne", fn := fun _ => fun
  | [d1, d2, d3] => { results := [.lit (.bool false)], args := [d1, d2, d3] }
  | _ => none }
def MediaOneWrongFalsely : Prop := mediaOneRow.holds Try.pinned (OpenSpec.ofChange mediaOneWrong)

/- THE SECOND FORM. 'bulk': how many values and letters a reading holds, each counted each time it is reached (what is shared counts as often as it is met; a slice's spare places count too). A statement '..UptoSaid' is the law's where the arguments, and the package variables that the reading takes, are together of bulk at most 1048576: NARROWER than '..Said'. Prove '..Said' where nothing that the law and all that it calls make is longer than what came in: it says more and counts as full. Else prove '..UptoSaid'. A law counts once. -/
mutual
def uptoBulk {H : Type} : DataW H → Nat
  | .lit (.string bytes) => bytes.length + 1
  | .lit _ => 1
  | .nil => 1
  | .ptr d => uptoBulk d + 1
  | .slice elems spare => uptoBulkAll elems + uptoBulkAll spare + 1
  | .agg parts => uptoBulkAll parts + 1
  | .iface _ d => uptoBulk d + 1
  | .map entries => uptoBulkEntries entries + 1
  | .held _ => 1
def uptoBulkAll {H : Type} : List (DataW H) → Nat
  | [] => 0
  | d :: r => uptoBulk d + uptoBulkAll r
def uptoBulkEntries {H : Type} : List (Lit × DataW H) → Nat
  | [] => 0
  | x :: r => uptoBulkEntry x + uptoBulkEntries r
def uptoBulkEntry {H : Type} : Lit × DataW H → Nat
  | (.string bytes, d) => bytes.length + uptoBulk d + 1
  | (_, d) => uptoBulk d + 1
 end
def uptoSmall : (H : Type) → List (DataW H) → Bool := fun _ ds => decide (uptoBulkAll ds ≤ 1048576)
def OpenSpec.upto (s : _root_.Go.ChangeSpec) : _root_.Go.OpenSpec := { _root_.Go.OpenSpec.ofChange s with cond := some uptoSmall }

/-- 'entrepotlaw11.MediaEncodes', WHERE WHAT IT READS IS OF BULK AT MOST 1048576: true; the input reads as it did. -/
def mediaEncodesUptoRow : OpenClaim := { program := "ytljnpaikjljmbaa", sum := "ee90e1f53842f9d30e7019ebf66a3551385a8303ab2fabc1633bed333e1ded21", func := "entrepot/entrepotlaw11.MediaEncodes", spec := "mediaEncodes", unfollowed := true, recurses := true, apart := false, narrowed := true }
def MediaEncodesUptoSaid : Prop := mediaEncodesUptoRow.holds Try.pinned (OpenSpec.upto mediaEncodesSpec)

/-- 'entrepotlaw11.MediaDecodes', WHERE WHAT IT READS IS OF BULK AT MOST 1048576: true; the input reads as it did. -/
def mediaDecodesUptoRow : OpenClaim := { program := "ytljnpaikjljmbaa", sum := "ee90e1f53842f9d30e7019ebf66a3551385a8303ab2fabc1633bed333e1ded21", func := "entrepot/entrepotlaw11.MediaDecodes", spec := "mediaDecodes", unfollowed := true, recurses := true, apart := false, narrowed := true }
def MediaDecodesUptoSaid : Prop := mediaDecodesUptoRow.holds Try.pinned (OpenSpec.upto mediaDecodesSpec)

/-- 'entrepotlaw11.MediaKnown', WHERE WHAT IT READS IS OF BULK AT MOST 1048576: true; the input reads as it did. -/
def mediaKnownUptoRow : OpenClaim := { program := "ytljnpaikjljmbaa", sum := "ee90e1f53842f9d30e7019ebf66a3551385a8303ab2fabc1633bed333e1ded21", func := "entrepot/entrepotlaw11.MediaKnown", spec := "mediaKnown", unfollowed := true, recurses := true, apart := false, narrowed := true }
def MediaKnownUptoSaid : Prop := mediaKnownUptoRow.holds Try.pinned (OpenSpec.upto mediaKnownSpec)

/-- 'entrepotlaw11.MediaBack', WHERE WHAT IT READS IS OF BULK AT MOST 1048576: true; the input reads as it did. -/
def mediaBackUptoRow : OpenClaim := { program := "ytljnpaikjljmbaa", sum := "ee90e1f53842f9d30e7019ebf66a3551385a8303ab2fabc1633bed333e1ded21", func := "entrepot/entrepotlaw11.MediaBack", spec := "mediaBack", unfollowed := true, recurses := true, apart := false, narrowed := true }
def MediaBackUptoSaid : Prop := mediaBackUptoRow.holds Try.pinned (OpenSpec.upto mediaBackSpec)

/-- 'entrepotlaw11.MediaOne', WHERE WHAT IT READS IS OF BULK AT MOST 1048576: true; the input reads as it did. -/
def mediaOneUptoRow : OpenClaim := { program := "ytljnpaikjljmbaa", sum := "ee90e1f53842f9d30e7019ebf66a3551385a8303ab2fabc1633bed333e1ded21", func := "entrepot/entrepotlaw11.MediaOne", spec := "mediaOne", unfollowed := true, recurses := true, apart := false, narrowed := true }
def MediaOneUptoSaid : Prop := mediaOneUptoRow.holds Try.pinned (OpenSpec.upto mediaOneSpec)

end Rows
end Go.Proofs.Ytljnpaikjljmbaa
