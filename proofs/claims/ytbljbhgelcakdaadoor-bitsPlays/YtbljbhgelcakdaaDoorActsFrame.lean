/- A row of acts as an argument: its types, as this program has them. -/
import Derived.Test.YtbljbhgelcakdaaDoorFrame
import Derived.Test.YtbljbhgelcakdaaDoorBitActs
namespace Go.Proofs.YtbljbhgelcakdaaDoor.Frame
open Go.RowKit Go.Proofs.YtbljbhgelcakdaaDoor.Bit
set_option linter.unusedVariables false

theorem openActs {H : Type} {enc : TypeId × Value → H} {w : World} {held : Bool} {fuel : Nat} {cs : List Value} {x : DataW H × List MemPlace} (h : DataW.trod enc Tryd.prog w 0 (fun _ => true) held fuel 22 cs = some x) : ∃ v ts, cs = [v] ∧ ActsAt (fun b => b < w.heap.size) w v ts :=
  open_acts Tryd.underlying22 Tryd.underlying30 (by kernel_rfl) ⟨rfl, rfl⟩ ⟨rfl, rfl⟩ ⟨rfl, rfl⟩ Tryd.underlying28 Tryd.underlying3 (by kernel_rfl) (by kernel_rfl) h
end Go.Proofs.YtbljbhgelcakdaaDoor.Frame
