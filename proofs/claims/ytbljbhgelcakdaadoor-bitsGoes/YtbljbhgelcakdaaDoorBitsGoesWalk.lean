/- BitsGoes, walked: over the contracts of the program's sets (BitImpl's api and iter). -/
import Derived.Test.YtbljbhgelcakdaaDoorBitWalk
import Derived.Test.YtbljbhgelcakdaaDoorBitGoes
import Derived.Test.YtbljbhgelcakdaaDoorBitImpl
namespace Go.Proofs.YtbljbhgelcakdaaDoor.Walk
open Go.RowKit Go.Proofs.YtbljbhgelcakdaaDoor.Dig Go.Proofs.YtbljbhgelcakdaaDoor.Mem Go.Proofs.YtbljbhgelcakdaaDoor.Bit
set_option linter.unusedVariables false

theorem walk_bitsGoes (w : World) (HT : Tab w) (n : Int) (wn : (Lit.int .i64 n).wf = true) (a0 : Option Addr) (n0 c0 : Nat) (z0 : List Int) (h0 : Frame.IsRow .i64 w a0 n0 c0 z0) (at_ : Int) (wa : (Lit.int .i64 at_).wf = true) (put : Int) (wp : (Lit.int .i64 put).wf = true) (drop : Int) (wd : (Lit.int .i64 drop).wf = true) :
    Calls Tryd.prog 4 #[.int .i64 n, .slice a0 n0 c0, .int .i64 at_, .int .i64 put, .int .i64 drop] w fun e w' => e = .returned (.bool true) ∧ Below w.heap.size w w' := by
  have m0 := h0.cap
  by_cases hb : 300 < n ∨ 300 < n0
  · exact goes_no api w (hide HT) n at_ put drop a0 n0 c0 hb (wf_le wn) (by omega)
  obtain ⟨l0, e0, r0⟩ := row_of h0 (by omega)
  exact goes_yes api iter w (hide HT) n at_ put drop a0 n0 c0 l0 wn wa wp wd r0 e0 (by omega) (by omega)
end Go.Proofs.YtbljbhgelcakdaaDoor.Walk
