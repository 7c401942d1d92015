/- A row of numbers that came in, as the laws of bits read it. -/
import Derived.Test.YtbljbhgelcakdaaDoorFrame
import Derived.Test.YtbljbhgelcakdaaDoorBitEnv
namespace Go.Proofs.YtbljbhgelcakdaaDoor.Bit
open Go.RowKit Go.Proofs.YtbljbhgelcakdaaDoor.Dig Go.Proofs.YtbljbhgelcakdaaDoor.Mem
set_option linter.unusedVariables false

theorem row_of {w : World} {a : Option Addr} {len cap : Nat} {zs : List Int} (h : Frame.IsRow .i64 w a len cap zs) (hl : len ≤ 1000000) : ∃ l, len = l.length ∧ RowI w a cap l := by
  have hc := h.cap.1
  obtain ⟨l, rfl, hr, hw, hn⟩ := h.list (by omega)
  exact ⟨l, rfl, hc, hr, fun e => (hn e).2⟩
theorem wf_le {n : Int} (h : (Lit.int .i64 n).wf = true) : n ≤ 9223372036854775807 := by
  simp only [Lit.wf, Bool.and_eq_true, decide_eq_true_eq] at h
  exact h.2
end Go.Proofs.YtbljbhgelcakdaaDoor.Bit
