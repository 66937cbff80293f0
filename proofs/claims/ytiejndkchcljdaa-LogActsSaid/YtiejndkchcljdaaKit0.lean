/- The type of bytes, as the append's laws ask it. -/
import Derived.Test.YtiejndkchcljdaaProg
import Derived.Test.YtiejndkchcljdaaMem
namespace Go.Proofs.Ytiejndkchcljdaa
theorem info5' : (Try.prog.info? 5).map (fun i => (i.zero, i.size, i.bytes)) = some (some (.int .u8 0), 1, 1) := by kernel_rfl
end Go.Proofs.Ytiejndkchcljdaa
