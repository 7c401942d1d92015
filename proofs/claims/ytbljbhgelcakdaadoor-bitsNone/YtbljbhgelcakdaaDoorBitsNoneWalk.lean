/- BitsNone, walked: over the contracts of the program's sets (BitImpl's api). -/
import Derived.Test.YtbljbhgelcakdaaDoorBitWalk
import Derived.Test.YtbljbhgelcakdaaDoorBitNone
import Derived.Test.YtbljbhgelcakdaaDoorBitImpl
namespace Go.Proofs.YtbljbhgelcakdaaDoor.Walk
open Go.RowKit Go.Proofs.YtbljbhgelcakdaaDoor.Dig Go.Proofs.YtbljbhgelcakdaaDoor.Mem Go.Proofs.YtbljbhgelcakdaaDoor.Bit
set_option linter.unusedVariables false

theorem walk_bitsNone (w : World) (HT : Tab w) (k : Int) (wk : (Lit.int .i64 k).wf = true) (n : Int) (wn : (Lit.int .i64 n).wf = true) :
    Calls Tryd.prog 6 #[.int .i64 k, .int .i64 n] w fun e w' => e = .returned (.bool true) ∧ Below w.heap.size w w' := none_any api w (hide HT) k n wk wn
end Go.Proofs.YtbljbhgelcakdaaDoor.Walk
