/- A history as an argument: its types, as this program has them. -/
import Derived.Test.YtigmgkcojifbcaaFrame
import Derived.Test.YtigmgkcojifbcaaHist
namespace Go.Proofs.Ytigmgkcojifbcaa.Frame
open Go.RowKit Go.Proofs.Ytigmgkcojifbcaa.Dig Go.Proofs.Ytigmgkcojifbcaa.Mem
set_option linter.unusedVariables false

theorem histTypes : ∃ r k v l i a o, HistTypes Try.prog 46 45 22 48 43 3 4 r k v l i a o := ⟨_, _, _, _, _, _, _, {
  ops := Try.underlying46
  op := Try.underlying45
  opc := by kernel_rfl
  txns := Try.underlying22
  txn := Try.underlying48
  txnc := by kernel_rfl
  ints := Try.underlying43
  int := Try.underlying3
  intc := by kernel_rfl
  bool := Try.underlying4
  boolc := by kernel_rfl
  intsc := by kernel_rfl
  opsc := by kernel_rfl
  rt := ⟨rfl, rfl⟩
  kt := ⟨rfl, rfl⟩
  vt := ⟨rfl, rfl⟩
  lt := ⟨rfl, rfl⟩
  it := ⟨rfl, rfl⟩
  at_ := ⟨rfl, rfl⟩
  ot := ⟨rfl, rfl⟩ }⟩
theorem openHist {H : Type} {enc : TypeId × Value → H} {w : World} {held : Bool} {v : Value} (hv : ∃ cs, v = .agg cs ∧ cs.size = Try.prog.cellsOf 24) {fuel : Nat} {x : DataW H × List MemPlace} (h : DataW.trod enc Try.prog w 0 (fun _ => true) held fuel 24 v.cells.toList = some x) :
    ∃ a len cap ts, v = .agg #[.slice a len cap] ∧ len = ts.length ∧ len ≤ cap ∧ cap ≤ maxLen ∧ TxnsAt (fun b => b < w.heap.size) w (.slice a len cap) ts :=
  let ⟨_, _, _, _, _, _, _, T⟩ := histTypes
  open_hist T Try.underlying24 (by kernel_rfl) ⟨rfl, rfl⟩ (by kernel_rfl) hv h
end Go.Proofs.Ytigmgkcojifbcaa.Frame
