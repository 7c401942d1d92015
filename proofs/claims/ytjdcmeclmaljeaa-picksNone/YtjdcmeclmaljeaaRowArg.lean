/- An argument []int as a row that is read. -/
import Derived.Test.YtjdcmeclmaljeaaFrame
import Derived.Test.YtjdcmeclmaljeaaDqRow
namespace Go.Proofs.Ytjdcmeclmaljeaa.Frame
open Go.RowKit Go.Proofs.Ytjdcmeclmaljeaa.Dig Go.Proofs.Ytjdcmeclmaljeaa.Dq
set_option linter.unusedVariables false

theorem IsRow.rowi {w : World} {a : Option Addr} {len cap : Nat} {zs : List Int} (h : IsRow .i64 w a len cap zs) (hl : len ≤ 1000000000000) : ∃ l : List Int, len = l.length ∧ RowI w a cap l := by
  obtain ⟨l, e, h1, h2, h3⟩ := h.list hl
  exact ⟨l, e, ⟨by rw [← e]; exact h.cap.1, h1, fun q => (h3 q).2⟩⟩
end Go.Proofs.Ytjdcmeclmaljeaa.Frame
