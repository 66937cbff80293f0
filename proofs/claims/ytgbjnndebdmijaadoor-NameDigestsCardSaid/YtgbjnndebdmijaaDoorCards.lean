/-
  DERIVED. GIVEN WITH THE SEED: THE CARDS: each row of YtgbjnndebdmijaaDoorRows.lean that lists a variable, with what it lists TIED to the program's text (the seventh form; the later family's looks); each row that meets fmt, with fmt's text TOLD by the authors' own Lean function (tested against real Go, not proved from fmt's source: count such statements apart). THE CARD IS WHAT COUNTS. Prove the row's statement (the work); the ties are given (YtgbjnndebdmijaaDoorTie.lean); close each card by the builder's one call (the guide's Derived/Test/ToyasCard.lean, 'card_holds'). Laid BY PROGRAM, IN A SANDBOX (cutbox-door.mjs). By AI agents, Wed Nov 11 2026. No macro, syntax, notation, axiom, sorry.
-/
import Derived.Test.YtgbjnndebdmijaaDoorRows
import GoSem.ClaimSeven
namespace Go.Proofs.YtgbjnndebdmijaaDoor
namespace Rows

/-- THE TIED CARD OF 'entrepotlaw03.NameDigests'. -/
def nameDigestsCard : Claim7 := { stood := { row := nameDigestsRow, standIns := [], harness := (true, "3b361c13dabef2174176e68341d79a04c62bdd7fdee8e053e0def67dad880a4b"), looks := false }, kinds := [], alts := [], laidByText := true, laidKinds := [.data], laidTests := true, laidLooks := .later }
def NameDigestsCardSaid : Prop := Claim7.holds Tryd.pinned (.plain (OpenSpec.ofChange nameDigestsSpec)) nameDigestsCard

/-- THE SECOND FORM's CARD OF 'entrepotlaw03.NameDigests'. -/
def nameDigestsUptoCard : Claim7 := { stood := { row := nameDigestsUptoRow, standIns := [], harness := (true, "3b361c13dabef2174176e68341d79a04c62bdd7fdee8e053e0def67dad880a4b"), looks := false }, kinds := [], alts := [], laidByText := true, laidKinds := [.data], laidTests := true, laidLooks := .later }
def NameDigestsUptoCardSaid : Prop := Claim7.holds Tryd.pinned (.plain (OpenSpec.upto nameDigestsSpec)) nameDigestsUptoCard
end Rows
end Go.Proofs.YtgbjnndebdmijaaDoor
