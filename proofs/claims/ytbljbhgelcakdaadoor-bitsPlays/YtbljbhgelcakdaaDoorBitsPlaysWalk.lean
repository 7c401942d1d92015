/- BitsPlays, walked: over the contracts of the program's sets (BitImpl's api). -/
import Derived.Test.YtbljbhgelcakdaaDoorBitWalk
import Derived.Test.YtbljbhgelcakdaaDoorBitPlays
import Derived.Test.YtbljbhgelcakdaaDoorBitImpl
namespace Go.Proofs.YtbljbhgelcakdaaDoor.Walk
open Go.RowKit Go.Proofs.YtbljbhgelcakdaaDoor.Dig Go.Proofs.YtbljbhgelcakdaaDoor.Mem Go.Proofs.YtbljbhgelcakdaaDoor.Bit
set_option linter.unusedVariables false

theorem walk_bitsPlays (w : World) (HT : Tab w) (n : Int) (wn : (Lit.int .i64 n).wf = true) (full : Bool) (a : Option Addr) (L c : Nat) (ts : List ActM) (ha : ActsAt (fun b => b < w.heap.size) w (.slice a L c) ts) (k : Int) (wk : (Lit.int .i64 k).wf = true) :
    Calls Tryd.prog 3 #[.int .i64 n, .bool full, .slice a L c, .int .i64 k] w fun e w' => e = .returned (.bool true) ∧ Below w.heap.size w w' := by
  obtain ⟨a', c', e, q1, q2⟩ := ha.shape
  injection e with e1 e2 e3
  have q3 : L ≤ 9223372036854775807 := by unfold maxLen at q2; omega
  by_cases hb : 300 < n ∨ 40 < L
  · exact plays_no api w (hide HT) n k full a L c hb (wf_le wn) q3
  · exact plays_yes api w (hide HT) n k full a L c ts wn wk ha e2 (by omega) (by omega)
end Go.Proofs.YtbljbhgelcakdaaDoor.Walk
