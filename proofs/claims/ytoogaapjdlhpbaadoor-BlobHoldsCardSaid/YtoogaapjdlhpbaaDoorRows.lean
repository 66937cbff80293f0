/-
  NARROWER THAN 'FOR EVERY INPUT', by the rows' own cells (each row's printed sentence says how): BlobActs: laid · BlobNone: laid · BlobKnown: laid · BlobHolds: laid · BlobConflict: laid.
  DERIVED. THE GIVEN ROWS OF THIS SEAT. 5 by the template 'for every input the law returns true; each argument reads behind the call as it read before'; 0 by the template 'total and deterministic' (their statements: YtoogaapjdlhpbaaDoorTotals.lean).
  GIVEN WITH THE SEED: the statements are not yours to turn. If you find one false, say at which input.
  Laid BY PROGRAM, IN A SANDBOX (cutbox-rows.mjs): the forced cells as the released guide's own fill.sh prints them over the translation 255fbae2b91f7e19… (all of the seat's roots in one cut). By AI agents, Wed Nov 11 2026. No macro, syntax, notation, axiom, sorry.
-/
import Derived.Test.YtoogaapjdlhpbaaDoorChecked
import GoSem.Claim
import GoSem.ClaimJoined
import GoSem.ClaimMapViews
import Derived.JoinedTies
import Derived.KernelRfl
namespace Go.Proofs.YtoogaapjdlhpbaaDoor
/- THE CELL 'sum', in the pinned program and in every row, IS THE sha256 OF THE DUMP (.gsa) THAT YtoogaapjdlhpbaaDoorProg.lean LOADS. Nothing in Lean hashes anything: it is a label: what it is worth is what the hold of that sum in a sandbox is worth. -/
noncomputable def Tryd.pinned : Pinned := { name := "ytoogaapjdlhpbaadoor", sum := "255fbae2b91f7e1962c7cff5847e5a9ae44da9ea96e6ab260d8a39841edeec2e", checked := Tryd.checked }
namespace Rows
def none {H : Type} : Left H := { results := [], args := [] }

/- WHAT THE LISTED PACKAGE-LEVEL VARIABLES READ AS WHEN THE CALL BEGINS. Each datum BY PROGRAM (the guide's laid-datum.mjs) off the statement by which the dump's own 'gosem.cut.vars' lays the variable. In a bare row this is a premise. The card (YtoogaapjdlhpbaaDoorCards.lean) ties it to the program's text. -/
def laid_entrepot_sha_first {H : Type} : DataW H := .agg [.lit (.int .u32 1779033703), .lit (.int .u32 3144134277), .lit (.int .u32 1013904242), .lit (.int .u32 2773480762), .lit (.int .u32 1359893119), .lit (.int .u32 2600822924), .lit (.int .u32 528734635), .lit (.int .u32 1541459225)]
def laid_entrepot_sha_added {H : Type} : DataW H := .agg [.lit (.int .u32 1116352408), .lit (.int .u32 1899447441), .lit (.int .u32 3049323471), .lit (.int .u32 3921009573), .lit (.int .u32 961987163), .lit (.int .u32 1508970993), .lit (.int .u32 2453635748), .lit (.int .u32 2870763221), .lit (.int .u32 3624381080), .lit (.int .u32 310598401), .lit (.int .u32 607225278), .lit (.int .u32 1426881987), .lit (.int .u32 1925078388), .lit (.int .u32 2162078206), .lit (.int .u32 2614888103), .lit (.int .u32 3248222580), .lit (.int .u32 3835390401), .lit (.int .u32 4022224774), .lit (.int .u32 264347078), .lit (.int .u32 604807628), .lit (.int .u32 770255983), .lit (.int .u32 1249150122), .lit (.int .u32 1555081692), .lit (.int .u32 1996064986), .lit (.int .u32 2554220882), .lit (.int .u32 2821834349), .lit (.int .u32 2952996808), .lit (.int .u32 3210313671), .lit (.int .u32 3336571891), .lit (.int .u32 3584528711), .lit (.int .u32 113926993), .lit (.int .u32 338241895), .lit (.int .u32 666307205), .lit (.int .u32 773529912), .lit (.int .u32 1294757372), .lit (.int .u32 1396182291), .lit (.int .u32 1695183700), .lit (.int .u32 1986661051), .lit (.int .u32 2177026350), .lit (.int .u32 2456956037), .lit (.int .u32 2730485921), .lit (.int .u32 2820302411), .lit (.int .u32 3259730800), .lit (.int .u32 3345764771), .lit (.int .u32 3516065817), .lit (.int .u32 3600352804), .lit (.int .u32 4094571909), .lit (.int .u32 275423344), .lit (.int .u32 430227734), .lit (.int .u32 506948616), .lit (.int .u32 659060556), .lit (.int .u32 883997877), .lit (.int .u32 958139571), .lit (.int .u32 1322822218), .lit (.int .u32 1537002063), .lit (.int .u32 1747873779), .lit (.int .u32 1955562222), .lit (.int .u32 2024104815), .lit (.int .u32 2227730452), .lit (.int .u32 2361852424), .lit (.int .u32 2428436474), .lit (.int .u32 2756734187), .lit (.int .u32 3204031479), .lit (.int .u32 3329325298)]

/-- 'entrepotlaw08.BlobActs': WHATEVER THE INPUT: true; the input reads as it did. -/
def blobActsSpec : ChangeSpec := { name := "blobActs", fn := fun _ => fun
  | [d1, d2, d3] => { results := [.lit (.bool true)], args := [d1, d2, d3] }
  | _ => none }
def blobActsRow : OpenClaim := { program := "ytoogaapjdlhpbaadoor", sum := "255fbae2b91f7e1962c7cff5847e5a9ae44da9ea96e6ab260d8a39841edeec2e", func := "entrepot/entrepotlaw08.BlobActs", spec := "blobActs", unfollowed := true, recurses := true, named := ["entrepot/sha.first", "entrepot/sha.added"], plainKeys := false, apart := false, laid := [("entrepot/sha.first", laid_entrepot_sha_first), ("entrepot/sha.added", laid_entrepot_sha_added)] }
def BlobActsSaid : Prop := blobActsRow.holds Tryd.pinned (OpenSpec.ofChange blobActsSpec)

/-- ITS FALSE NEIGHBOUR: 'it returns false'. Refute it at one input. -/
def blobActsWrong : ChangeSpec := { name := "blobActs", fn := fun _ => fun
  | [d1, d2, d3] => { results := [.lit (.bool false)], args := [d1, d2, d3] }
  | _ => none }
def BlobActsWrongFalsely : Prop := blobActsRow.holds Tryd.pinned (OpenSpec.ofChange blobActsWrong)

/-- 'entrepotlaw08.BlobNone': WHATEVER THE INPUT: true; the input reads as it did. -/
def blobNoneSpec : ChangeSpec := { name := "blobNone", fn := fun _ => fun
  | [d1, d2] => { results := [.lit (.bool true)], args := [d1, d2] }
  | _ => none }
def blobNoneRow : OpenClaim := { program := "ytoogaapjdlhpbaadoor", sum := "255fbae2b91f7e1962c7cff5847e5a9ae44da9ea96e6ab260d8a39841edeec2e", func := "entrepot/entrepotlaw08.BlobNone", spec := "blobNone", unfollowed := true, recurses := true, named := ["entrepot/sha.first", "entrepot/sha.added"], plainKeys := false, apart := false, laid := [("entrepot/sha.first", laid_entrepot_sha_first), ("entrepot/sha.added", laid_entrepot_sha_added)] }
def BlobNoneSaid : Prop := blobNoneRow.holds Tryd.pinned (OpenSpec.ofChange blobNoneSpec)

/-- ITS FALSE NEIGHBOUR: 'it returns false'. Refute it at one input. -/
def blobNoneWrong : ChangeSpec := { name := "blobNone", fn := fun _ => fun
  | [d1, d2] => { results := [.lit (.bool false)], args := [d1, d2] }
  | _ => none }
def BlobNoneWrongFalsely : Prop := blobNoneRow.holds Tryd.pinned (OpenSpec.ofChange blobNoneWrong)

/-- 'entrepotlaw08.BlobKnown': WHATEVER THE INPUT: true; the input reads as it did. -/
def blobKnownSpec : ChangeSpec := { name := "blobKnown", fn := fun _ => fun
  | [] => { results := [.lit (.bool true)], args := [] }
  | _ => none }
def blobKnownRow : OpenClaim := { program := "ytoogaapjdlhpbaadoor", sum := "255fbae2b91f7e1962c7cff5847e5a9ae44da9ea96e6ab260d8a39841edeec2e", func := "entrepot/entrepotlaw08.BlobKnown", spec := "blobKnown", unfollowed := true, recurses := true, named := ["entrepot/sha.first", "entrepot/sha.added"], plainKeys := false, apart := false, laid := [("entrepot/sha.first", laid_entrepot_sha_first), ("entrepot/sha.added", laid_entrepot_sha_added)] }
def BlobKnownSaid : Prop := blobKnownRow.holds Tryd.pinned (OpenSpec.ofChange blobKnownSpec)

/-- ITS FALSE NEIGHBOUR: 'it returns false'. Refute it at one input. -/
def blobKnownWrong : ChangeSpec := { name := "blobKnown", fn := fun _ => fun
  | [] => { results := [.lit (.bool false)], args := [] }
  | _ => none }
def BlobKnownWrongFalsely : Prop := blobKnownRow.holds Tryd.pinned (OpenSpec.ofChange blobKnownWrong)

/-- 'entrepotlaw08.BlobHolds': WHATEVER THE INPUT: true; the input reads as it did. -/
def blobHoldsSpec : ChangeSpec := { name := "blobHolds", fn := fun _ => fun
  | [d1, d2, d3, d4] => { results := [.lit (.bool true)], args := [d1, d2, d3, d4] }
  | _ => none }
def blobHoldsRow : OpenClaim := { program := "ytoogaapjdlhpbaadoor", sum := "255fbae2b91f7e1962c7cff5847e5a9ae44da9ea96e6ab260d8a39841edeec2e", func := "entrepot/entrepotlaw08.BlobHolds", spec := "blobHolds", inPlace := ["internal/bytealg.Compare"], unfollowed := true, recurses := true, named := ["entrepot/sha.first", "entrepot/sha.added"], plainKeys := false, apart := false, laid := [("entrepot/sha.first", laid_entrepot_sha_first), ("entrepot/sha.added", laid_entrepot_sha_added)] }
def BlobHoldsSaid : Prop := blobHoldsRow.holds Tryd.pinned (OpenSpec.ofChange blobHoldsSpec)

/-- ITS FALSE NEIGHBOUR: 'it returns false'. Refute it at one input. -/
def blobHoldsWrong : ChangeSpec := { name := "blobHolds", fn := fun _ => fun
  | [d1, d2, d3, d4] => { results := [.lit (.bool false)], args := [d1, d2, d3, d4] }
  | _ => none }
def BlobHoldsWrongFalsely : Prop := blobHoldsRow.holds Tryd.pinned (OpenSpec.ofChange blobHoldsWrong)

/-- 'entrepotlaw08.BlobConflict': WHATEVER THE INPUT: true; the input reads as it did. -/
def blobConflictSpec : ChangeSpec := { name := "blobConflict", fn := fun _ => fun
  | [d] => { results := [.lit (.bool true)], args := [d] }
  | _ => none }
def blobConflictRow : OpenClaim := { program := "ytoogaapjdlhpbaadoor", sum := "255fbae2b91f7e1962c7cff5847e5a9ae44da9ea96e6ab260d8a39841edeec2e", func := "entrepot/entrepotlaw08.BlobConflict", spec := "blobConflict", unfollowed := true, recurses := true, named := ["entrepot/sha.first", "entrepot/sha.added"], plainKeys := false, apart := false, laid := [("entrepot/sha.first", laid_entrepot_sha_first), ("entrepot/sha.added", laid_entrepot_sha_added)] }
def BlobConflictSaid : Prop := blobConflictRow.holds Tryd.pinned (OpenSpec.ofChange blobConflictSpec)

/-- ITS FALSE NEIGHBOUR: 'it returns false'. Refute it at one input. -/
def blobConflictWrong : ChangeSpec := { name := "blobConflict", fn := fun _ => fun
  | [d] => { results := [.lit (.bool false)], args := [d] }
  | _ => none }
def BlobConflictWrongFalsely : Prop := blobConflictRow.holds Tryd.pinned (OpenSpec.ofChange blobConflictWrong)

/- THE SECOND FORM. 'bulk': how many values and letters a reading holds, each counted each time it is reached (what is shared counts as often as it is met; a slice's spare places count too). A statement '..UptoSaid' is the law's where the arguments, and the package variables that the reading takes, are together of bulk at most 1048576: NARROWER than '..Said'. Prove '..Said' where nothing that the law and all that it calls make is longer than what came in: it says more and counts as full. Else prove '..UptoSaid'. A law counts once. -/
mutual
def uptoBulk {H : Type} : DataW H → Nat
  | .lit (.string bytes) => bytes.length + 1
  | .lit _ => 1
  | .nil => 1
  | .ptr d => uptoBulk d + 1
  | .slice elems spare => uptoBulkAll elems + uptoBulkAll spare + 1
  | .agg parts => uptoBulkAll parts + 1
  | .iface _ d => uptoBulk d + 1
  | .map entries => uptoBulkEntries entries + 1
  | .held _ => 1
def uptoBulkAll {H : Type} : List (DataW H) → Nat
  | [] => 0
  | d :: r => uptoBulk d + uptoBulkAll r
def uptoBulkEntries {H : Type} : List (Lit × DataW H) → Nat
  | [] => 0
  | x :: r => uptoBulkEntry x + uptoBulkEntries r
def uptoBulkEntry {H : Type} : Lit × DataW H → Nat
  | (.string bytes, d) => bytes.length + uptoBulk d + 1
  | (_, d) => uptoBulk d + 1
 end
def uptoSmall : (H : Type) → List (DataW H) → Bool := fun _ ds => decide (uptoBulkAll ds ≤ 1048576)
def OpenSpec.upto (s : _root_.Go.ChangeSpec) : _root_.Go.OpenSpec := { _root_.Go.OpenSpec.ofChange s with cond := some uptoSmall }

/-- 'entrepotlaw08.BlobActs', WHERE WHAT IT READS IS OF BULK AT MOST 1048576: true; the input reads as it did. -/
def blobActsUptoRow : OpenClaim := { program := "ytoogaapjdlhpbaadoor", sum := "255fbae2b91f7e1962c7cff5847e5a9ae44da9ea96e6ab260d8a39841edeec2e", func := "entrepot/entrepotlaw08.BlobActs", spec := "blobActs", unfollowed := true, recurses := true, named := ["entrepot/sha.first", "entrepot/sha.added"], plainKeys := false, apart := false, laid := [("entrepot/sha.first", laid_entrepot_sha_first), ("entrepot/sha.added", laid_entrepot_sha_added)], narrowed := true }
def BlobActsUptoSaid : Prop := blobActsUptoRow.holds Tryd.pinned (OpenSpec.upto blobActsSpec)

/-- 'entrepotlaw08.BlobNone', WHERE WHAT IT READS IS OF BULK AT MOST 1048576: true; the input reads as it did. -/
def blobNoneUptoRow : OpenClaim := { program := "ytoogaapjdlhpbaadoor", sum := "255fbae2b91f7e1962c7cff5847e5a9ae44da9ea96e6ab260d8a39841edeec2e", func := "entrepot/entrepotlaw08.BlobNone", spec := "blobNone", unfollowed := true, recurses := true, named := ["entrepot/sha.first", "entrepot/sha.added"], plainKeys := false, apart := false, laid := [("entrepot/sha.first", laid_entrepot_sha_first), ("entrepot/sha.added", laid_entrepot_sha_added)], narrowed := true }
def BlobNoneUptoSaid : Prop := blobNoneUptoRow.holds Tryd.pinned (OpenSpec.upto blobNoneSpec)

/-- 'entrepotlaw08.BlobKnown', WHERE WHAT IT READS IS OF BULK AT MOST 1048576: true; the input reads as it did. -/
def blobKnownUptoRow : OpenClaim := { program := "ytoogaapjdlhpbaadoor", sum := "255fbae2b91f7e1962c7cff5847e5a9ae44da9ea96e6ab260d8a39841edeec2e", func := "entrepot/entrepotlaw08.BlobKnown", spec := "blobKnown", unfollowed := true, recurses := true, named := ["entrepot/sha.first", "entrepot/sha.added"], plainKeys := false, apart := false, laid := [("entrepot/sha.first", laid_entrepot_sha_first), ("entrepot/sha.added", laid_entrepot_sha_added)], narrowed := true }
def BlobKnownUptoSaid : Prop := blobKnownUptoRow.holds Tryd.pinned (OpenSpec.upto blobKnownSpec)

/-- 'entrepotlaw08.BlobHolds', WHERE WHAT IT READS IS OF BULK AT MOST 1048576: true; the input reads as it did. -/
def blobHoldsUptoRow : OpenClaim := { program := "ytoogaapjdlhpbaadoor", sum := "255fbae2b91f7e1962c7cff5847e5a9ae44da9ea96e6ab260d8a39841edeec2e", func := "entrepot/entrepotlaw08.BlobHolds", spec := "blobHolds", inPlace := ["internal/bytealg.Compare"], unfollowed := true, recurses := true, named := ["entrepot/sha.first", "entrepot/sha.added"], plainKeys := false, apart := false, laid := [("entrepot/sha.first", laid_entrepot_sha_first), ("entrepot/sha.added", laid_entrepot_sha_added)], narrowed := true }
def BlobHoldsUptoSaid : Prop := blobHoldsUptoRow.holds Tryd.pinned (OpenSpec.upto blobHoldsSpec)

/-- 'entrepotlaw08.BlobConflict', WHERE WHAT IT READS IS OF BULK AT MOST 1048576: true; the input reads as it did. -/
def blobConflictUptoRow : OpenClaim := { program := "ytoogaapjdlhpbaadoor", sum := "255fbae2b91f7e1962c7cff5847e5a9ae44da9ea96e6ab260d8a39841edeec2e", func := "entrepot/entrepotlaw08.BlobConflict", spec := "blobConflict", unfollowed := true, recurses := true, named := ["entrepot/sha.first", "entrepot/sha.added"], plainKeys := false, apart := false, laid := [("entrepot/sha.first", laid_entrepot_sha_first), ("entrepot/sha.added", laid_entrepot_sha_added)], narrowed := true }
def BlobConflictUptoSaid : Prop := blobConflictUptoRow.holds Tryd.pinned (OpenSpec.upto blobConflictSpec)

end Rows
end Go.Proofs.YtoogaapjdlhpbaaDoor
