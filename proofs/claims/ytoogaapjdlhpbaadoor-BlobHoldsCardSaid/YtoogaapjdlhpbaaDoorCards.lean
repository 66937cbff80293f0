/-
  DERIVED. GIVEN WITH THE SEED: THE CARDS: each row of YtoogaapjdlhpbaaDoorRows.lean that lists a variable, with what it lists TIED to the program's text (the seventh form; the later family's looks); each row that meets fmt, with fmt's text TOLD by the authors' own Lean function (tested against real Go, not proved from fmt's source: count such statements apart). THE CARD IS WHAT COUNTS. Prove the row's statement (the work); the ties are given (YtoogaapjdlhpbaaDoorTie.lean); close each card by the builder's one call (the guide's Derived/Test/ToyasCard.lean, 'card_holds'). Laid BY PROGRAM, IN A SANDBOX (cutbox-door.mjs). By AI agents, Wed Nov 11 2026. No macro, syntax, notation, axiom, sorry.
-/
import Derived.Test.YtoogaapjdlhpbaaDoorRows
import GoSem.ClaimSeven
namespace Go.Proofs.YtoogaapjdlhpbaaDoor
namespace Rows

/-- THE TIED CARD OF 'entrepotlaw08.BlobActs'. -/
def blobActsCard : Claim7 := { stood := { row := blobActsRow, standIns := [], harness := (true, "5db40ad78d25bd2467e9945a6d8992ae071ba115131371099cc8378563539427"), looks := true }, kinds := [], alts := [], laidByText := true, laidKinds := [.data, .data], laidTests := true, laidLooks := .later }
def BlobActsCardSaid : Prop := Claim7.holds Tryd.pinned (.plain (OpenSpec.ofChange blobActsSpec)) blobActsCard

/-- THE TIED CARD OF 'entrepotlaw08.BlobNone'. -/
def blobNoneCard : Claim7 := { stood := { row := blobNoneRow, standIns := [], harness := (true, "5db40ad78d25bd2467e9945a6d8992ae071ba115131371099cc8378563539427"), looks := true }, kinds := [], alts := [], laidByText := true, laidKinds := [.data, .data], laidTests := true, laidLooks := .later }
def BlobNoneCardSaid : Prop := Claim7.holds Tryd.pinned (.plain (OpenSpec.ofChange blobNoneSpec)) blobNoneCard

/-- THE TIED CARD OF 'entrepotlaw08.BlobKnown'. -/
def blobKnownCard : Claim7 := { stood := { row := blobKnownRow, standIns := [], harness := (true, "5db40ad78d25bd2467e9945a6d8992ae071ba115131371099cc8378563539427"), looks := true }, kinds := [], alts := [], laidByText := true, laidKinds := [.data, .data], laidTests := true, laidLooks := .later }
def BlobKnownCardSaid : Prop := Claim7.holds Tryd.pinned (.plain (OpenSpec.ofChange blobKnownSpec)) blobKnownCard

/-- THE TIED CARD OF 'entrepotlaw08.BlobHolds'. -/
def blobHoldsCard : Claim7 := { stood := { row := blobHoldsRow, standIns := [], harness := (true, "5db40ad78d25bd2467e9945a6d8992ae071ba115131371099cc8378563539427"), looks := true }, kinds := [], alts := [], laidByText := true, laidKinds := [.data, .data], laidTests := true, laidLooks := .later }
def BlobHoldsCardSaid : Prop := Claim7.holds Tryd.pinned (.plain (OpenSpec.ofChange blobHoldsSpec)) blobHoldsCard

/-- THE TIED CARD OF 'entrepotlaw08.BlobConflict'. -/
def blobConflictCard : Claim7 := { stood := { row := blobConflictRow, standIns := [], harness := (true, "5db40ad78d25bd2467e9945a6d8992ae071ba115131371099cc8378563539427"), looks := true }, kinds := [], alts := [], laidByText := true, laidKinds := [.data, .data], laidTests := true, laidLooks := .later }
def BlobConflictCardSaid : Prop := Claim7.holds Tryd.pinned (.plain (OpenSpec.ofChange blobConflictSpec)) blobConflictCard

/-- THE SECOND FORM's CARD OF 'entrepotlaw08.BlobActs'. -/
def blobActsUptoCard : Claim7 := { stood := { row := blobActsUptoRow, standIns := [], harness := (true, "5db40ad78d25bd2467e9945a6d8992ae071ba115131371099cc8378563539427"), looks := true }, kinds := [], alts := [], laidByText := true, laidKinds := [.data, .data], laidTests := true, laidLooks := .later }
def BlobActsUptoCardSaid : Prop := Claim7.holds Tryd.pinned (.plain (OpenSpec.upto blobActsSpec)) blobActsUptoCard

/-- THE SECOND FORM's CARD OF 'entrepotlaw08.BlobNone'. -/
def blobNoneUptoCard : Claim7 := { stood := { row := blobNoneUptoRow, standIns := [], harness := (true, "5db40ad78d25bd2467e9945a6d8992ae071ba115131371099cc8378563539427"), looks := true }, kinds := [], alts := [], laidByText := true, laidKinds := [.data, .data], laidTests := true, laidLooks := .later }
def BlobNoneUptoCardSaid : Prop := Claim7.holds Tryd.pinned (.plain (OpenSpec.upto blobNoneSpec)) blobNoneUptoCard

/-- THE SECOND FORM's CARD OF 'entrepotlaw08.BlobKnown'. -/
def blobKnownUptoCard : Claim7 := { stood := { row := blobKnownUptoRow, standIns := [], harness := (true, "5db40ad78d25bd2467e9945a6d8992ae071ba115131371099cc8378563539427"), looks := true }, kinds := [], alts := [], laidByText := true, laidKinds := [.data, .data], laidTests := true, laidLooks := .later }
def BlobKnownUptoCardSaid : Prop := Claim7.holds Tryd.pinned (.plain (OpenSpec.upto blobKnownSpec)) blobKnownUptoCard

/-- THE SECOND FORM's CARD OF 'entrepotlaw08.BlobHolds'. -/
def blobHoldsUptoCard : Claim7 := { stood := { row := blobHoldsUptoRow, standIns := [], harness := (true, "5db40ad78d25bd2467e9945a6d8992ae071ba115131371099cc8378563539427"), looks := true }, kinds := [], alts := [], laidByText := true, laidKinds := [.data, .data], laidTests := true, laidLooks := .later }
def BlobHoldsUptoCardSaid : Prop := Claim7.holds Tryd.pinned (.plain (OpenSpec.upto blobHoldsSpec)) blobHoldsUptoCard

/-- THE SECOND FORM's CARD OF 'entrepotlaw08.BlobConflict'. -/
def blobConflictUptoCard : Claim7 := { stood := { row := blobConflictUptoRow, standIns := [], harness := (true, "5db40ad78d25bd2467e9945a6d8992ae071ba115131371099cc8378563539427"), looks := true }, kinds := [], alts := [], laidByText := true, laidKinds := [.data, .data], laidTests := true, laidLooks := .later }
def BlobConflictUptoCardSaid : Prop := Claim7.holds Tryd.pinned (.plain (OpenSpec.upto blobConflictSpec)) blobConflictUptoCard
end Rows
end Go.Proofs.YtoogaapjdlhpbaaDoor
