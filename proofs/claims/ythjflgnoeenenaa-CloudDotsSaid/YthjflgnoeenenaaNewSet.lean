/- A new block, laid at once. Plain lemmas over any program. -/
import Derived.Test.YthjflgnoeenenaaBlk
namespace Go.Proofs.Ythjflgnoeenenaa
open Go.RowKit
theorem new_set (w : World) (t : TypeId) (cs cs' : Array Value) : Below w.heap.size w ((w.alloc (.cells cs t)).setRow w.heap.size cs') ∧ Blk ((w.alloc (.cells cs t)).setRow w.heap.size cs') w.heap.size t cs' :=
  ⟨(below_new w _).trans (below_of_grown (grown_setRow _ _ _) (by rw [size_new]; omega) (fun g e => by cases e; exact Nat.le_refl _)), (Blk.new w t cs).setRow cs'⟩
end Go.Proofs.Ythjflgnoeenenaa
