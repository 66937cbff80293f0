/- Two lists of bytes compared. -/
import Derived.Test.YtjgnbmkhibdcfaaShaBytes
namespace Go.Proofs.Ytjgnbmkhibdcfaa
open Go.RowKit Crc
def cmpL : List UInt8 → List UInt8 → Int
  | a :: l, b :: m => if a.toNat < b.toNat then -1 else if b.toNat < a.toNat then 1 else cmpL l m
  | _, _ => 0
theorem cmpL_cons (a b : UInt8) (l m : List UInt8) : cmpL (a :: l) (b :: m) = if a.toNat < b.toNat then -1 else if b.toNat < a.toNat then 1 else cmpL l m := rfl
theorem cmpL_nil (m : List UInt8) : cmpL [] m = 0 := by cases m <;> rfl
theorem bcells_at {l : List UInt8} {i : Nat} {x : UInt8} (h : l[i]? = some x) : (bcells l)[i]? = some (.int .u8 (x.toNat : Int)) := by simp [bcells, h, bv]
end Go.Proofs.Ytjgnbmkhibdcfaa
