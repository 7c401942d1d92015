/- A row of rows of numbers as an argument: its types, as this program has them. -/
import Derived.Test.YtjdcmeclmaljeaaFrame
import Derived.Test.YtjdcmeclmaljeaaLists
namespace Go.Proofs.Ytjdcmeclmaljeaa.Frame
open Go.RowKit Go.Proofs.Ytjdcmeclmaljeaa.Mem
set_option linter.unusedVariables false

theorem openLists {H : Type} {enc : TypeId × Value → H} {w : World} {held : Bool} {fuel : Nat} {cs : List Value} {x : DataW H × List MemPlace} (h : DataW.trod enc Try.prog w 0 (fun _ => true) held fuel 23 cs = some x) : ∃ v ls, cs = [v] ∧ ListsAt (fun b => b < w.heap.size) w v ls :=
  open_lists Try.underlying23 Try.underlying22 Try.underlying3 (by kernel_rfl) (by kernel_rfl) h
end Go.Proofs.Ytjdcmeclmaljeaa.Frame
