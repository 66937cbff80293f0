/- The type of bytes, as the append's laws ask it. -/
import Derived.Test.YtoajnabdflikfaaProg
import Derived.Test.YtoajnabdflikfaaMem
namespace Go.Proofs.Ytoajnabdflikfaa
theorem info5' : (Try.prog.info? 5).map (fun i => (i.zero, i.size, i.bytes)) = some (some (.int .u8 0), 1, 1) := by kernel_rfl
end Go.Proofs.Ytoajnabdflikfaa
