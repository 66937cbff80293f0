/-
  DERIVED. GIVEN WITH THE SEED: THE CARDS: each row of YtgacdimjbpkgoaaDoorRows.lean that lists a variable, with what it lists TIED to the program's text (the seventh form; the later family's looks); each row that meets fmt, with fmt's text TOLD by the authors' own Lean function (tested against real Go, not proved from fmt's source: count such statements apart). THE CARD IS WHAT COUNTS. Prove the row's statement (the work); the ties are given (YtgacdimjbpkgoaaDoorTie.lean); close each card by the builder's one call (the guide's Derived/Test/ToyasCard.lean, 'card_holds'). Laid BY PROGRAM, IN A SANDBOX (cutbox-door.mjs). By AI agents, Wed Nov 11 2026. No macro, syntax, notation, axiom, sorry.
-/
import Derived.Test.YtgacdimjbpkgoaaDoorRows
import GoSem.ClaimSeven
namespace Go.Proofs.YtgacdimjbpkgoaaDoor
namespace Rows

/-- THE TIED CARD OF 'entrepotlaw09.UploadNone'. -/
def uploadNoneCard : Claim7 := { stood := { row := uploadNoneRow, standIns := [], harness := (true, "0c07712d643ac9e3ed9ca1687a174fb6e6441f432eac2602bd41ac48585985a9"), looks := false }, kinds := [], alts := [], laidByText := true, laidKinds := [.data, .data], laidTests := true, laidLooks := .later }
def UploadNoneCardSaid : Prop := Claim7.holds Tryd.pinned (.plain (OpenSpec.ofChange uploadNoneSpec)) uploadNoneCard

/-- THE TIED CARD OF 'entrepotlaw09.UploadKnown'. -/
def uploadKnownCard : Claim7 := { stood := { row := uploadKnownRow, standIns := [], harness := (true, "0c07712d643ac9e3ed9ca1687a174fb6e6441f432eac2602bd41ac48585985a9"), looks := false }, kinds := [], alts := [], laidByText := true, laidKinds := [.data, .data], laidTests := true, laidLooks := .later }
def UploadKnownCardSaid : Prop := Claim7.holds Tryd.pinned (.plain (OpenSpec.ofChange uploadKnownSpec)) uploadKnownCard

/-- THE TIED CARD OF 'entrepotlaw09.UploadPieces'. -/
def uploadPiecesCard : Claim7 := { stood := { row := uploadPiecesRow, standIns := [], harness := (true, "0c07712d643ac9e3ed9ca1687a174fb6e6441f432eac2602bd41ac48585985a9"), looks := false }, kinds := [], alts := [], laidByText := true, laidKinds := [.data, .data], laidTests := true, laidLooks := .later }
def UploadPiecesCardSaid : Prop := Claim7.holds Tryd.pinned (.plain (OpenSpec.ofChange uploadPiecesSpec)) uploadPiecesCard

/-- THE TIED CARD OF 'entrepotlaw09.UploadResumes'. -/
def uploadResumesCard : Claim7 := { stood := { row := uploadResumesRow, standIns := [], harness := (true, "0c07712d643ac9e3ed9ca1687a174fb6e6441f432eac2602bd41ac48585985a9"), looks := false }, kinds := [], alts := [], laidByText := true, laidKinds := [.data, .data], laidTests := true, laidLooks := .later }
def UploadResumesCardSaid : Prop := Claim7.holds Tryd.pinned (.plain (OpenSpec.ofChange uploadResumesSpec)) uploadResumesCard

/-- THE SECOND FORM's CARD OF 'entrepotlaw09.UploadNone'. -/
def uploadNoneUptoCard : Claim7 := { stood := { row := uploadNoneUptoRow, standIns := [], harness := (true, "0c07712d643ac9e3ed9ca1687a174fb6e6441f432eac2602bd41ac48585985a9"), looks := false }, kinds := [], alts := [], laidByText := true, laidKinds := [.data, .data], laidTests := true, laidLooks := .later }
def UploadNoneUptoCardSaid : Prop := Claim7.holds Tryd.pinned (.plain (OpenSpec.upto uploadNoneSpec)) uploadNoneUptoCard

/-- THE SECOND FORM's CARD OF 'entrepotlaw09.UploadKnown'. -/
def uploadKnownUptoCard : Claim7 := { stood := { row := uploadKnownUptoRow, standIns := [], harness := (true, "0c07712d643ac9e3ed9ca1687a174fb6e6441f432eac2602bd41ac48585985a9"), looks := false }, kinds := [], alts := [], laidByText := true, laidKinds := [.data, .data], laidTests := true, laidLooks := .later }
def UploadKnownUptoCardSaid : Prop := Claim7.holds Tryd.pinned (.plain (OpenSpec.upto uploadKnownSpec)) uploadKnownUptoCard

/-- THE SECOND FORM's CARD OF 'entrepotlaw09.UploadPieces'. -/
def uploadPiecesUptoCard : Claim7 := { stood := { row := uploadPiecesUptoRow, standIns := [], harness := (true, "0c07712d643ac9e3ed9ca1687a174fb6e6441f432eac2602bd41ac48585985a9"), looks := false }, kinds := [], alts := [], laidByText := true, laidKinds := [.data, .data], laidTests := true, laidLooks := .later }
def UploadPiecesUptoCardSaid : Prop := Claim7.holds Tryd.pinned (.plain (OpenSpec.upto uploadPiecesSpec)) uploadPiecesUptoCard

/-- THE SECOND FORM's CARD OF 'entrepotlaw09.UploadResumes'. -/
def uploadResumesUptoCard : Claim7 := { stood := { row := uploadResumesUptoRow, standIns := [], harness := (true, "0c07712d643ac9e3ed9ca1687a174fb6e6441f432eac2602bd41ac48585985a9"), looks := false }, kinds := [], alts := [], laidByText := true, laidKinds := [.data, .data], laidTests := true, laidLooks := .later }
def UploadResumesUptoCardSaid : Prop := Claim7.holds Tryd.pinned (.plain (OpenSpec.upto uploadResumesSpec)) uploadResumesUptoCard
end Rows
end Go.Proofs.YtgacdimjbpkgoaaDoor
