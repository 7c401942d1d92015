/- BitsClone, walked: over the contracts of the program's sets (BitImpl's api). -/
import Derived.Test.YtbljbhgelcakdaaDoorBitWalk
import Derived.Test.YtbljbhgelcakdaaDoorBitClone
import Derived.Test.YtbljbhgelcakdaaDoorBitImpl
namespace Go.Proofs.YtbljbhgelcakdaaDoor.Walk
open Go.RowKit Go.Proofs.YtbljbhgelcakdaaDoor.Dig Go.Proofs.YtbljbhgelcakdaaDoor.Mem Go.Proofs.YtbljbhgelcakdaaDoor.Bit
set_option linter.unusedVariables false

theorem walk_bitsClone (w : World) (HT : Tab w) (n : Int) (wn : (Lit.int .i64 n).wf = true) (m : Int) (wm : (Lit.int .i64 m).wf = true) (a0 : Option Addr) (n0 c0 : Nat) (z0 : List Int) (h0 : Frame.IsRow .i64 w a0 n0 c0 z0) (a1 : Option Addr) (n1 c1 : Nat) (z1 : List Int) (h1 : Frame.IsRow .i64 w a1 n1 c1 z1) :
    Calls Tryd.prog 5 #[.int .i64 n, .int .i64 m, .slice a0 n0 c0, .slice a1 n1 c1] w fun e w' => e = .returned (.bool true) ∧ Below w.heap.size w w' := by
  have m0 := h0.cap
  have m1 := h1.cap
  by_cases hb : 300 < n ∨ 300 < m ∨ 300 < n0 ∨ 300 < n1
  · exact clone_no api w (hide HT) n m a0 a1 n0 n1 c0 c1 hb (wf_le wn) (wf_le wm) (by omega) (by omega)
  obtain ⟨l0, e0, r0⟩ := row_of h0 (by omega)
  obtain ⟨l1, e1, r1⟩ := row_of h1 (by omega)
  exact clone_yes api w (hide HT) n m a0 a1 n0 n1 c0 c1 l0 l1 wn wm r0 r1 e0 e1 (by omega) (by omega) (by omega) (by omega)
end Go.Proofs.YtbljbhgelcakdaaDoor.Walk
