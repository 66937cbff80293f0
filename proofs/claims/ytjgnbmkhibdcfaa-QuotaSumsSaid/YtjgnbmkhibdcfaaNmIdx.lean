/- Contract: strings.IndexRune, of a text of 16 bytes of ASCII. -/
import Derived.Test.YtjgnbmkhibdcfaaProg
import Derived.Test.YtjgnbmkhibdcfaaMem
import Derived.Test.YtjgnbmkhibdcfaaQuietC
import Derived.Laws.Runes
import Derived.Laws.RangeAny
import Derived.Lib.OthersKept
import Derived.WalkSmall
import Derived.WalkMore
import Derived.Shelf.Abstract
import Derived.Deep.QuietTactic
import Derived.BigQuiet
namespace Go.Proofs.Ytjgnbmkhibdcfaa
open Go.RowKit

theorem by8_cast (b : UInt8) : ((b.toNat : Int)).toNat.toUInt8 = b := by simp
end Go.Proofs.Ytjgnbmkhibdcfaa
