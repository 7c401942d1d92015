/- An argument []string: nil, or a row of texts. -/
import Derived.Test.YtghdafgpdhbohaaFrame
import Derived.Test.YtghdafgpdhbohaaTxtRow
import Derived.Deep.Strs
namespace Go.Proofs.Ytghdafgpdhbohaa.Frame
open Go.RowKit Go.Proofs.Ytghdafgpdhbohaa.SetsT
set_option linter.unusedVariables false

def IsStrs (w : World) (a : Option Addr) (len cap : Nat) (ss : List (List UInt8)) : Prop :=
  (a = none ∧ len = 0 ∧ cap = 0 ∧ ss = []) ∨
  ∃ x, a = some x ∧ len ≤ cap ∧ cap ≤ maxLen ∧ ss.length = len ∧ (∀ i, i < len → w.cell? (x.add i) = some (.string ⟨(ss.getD i []).toArray⟩))
theorem IsStrs.of {w : World} {x : Addr} {len cap : Nat} (h1 : len ≤ cap) (h2 : cap ≤ maxLen) (Sx : Nat → ByteArray) (h : ∀ i, i < len → w.cell? (x.add i) = some (.string (Sx i))) : IsStrs w (some x) len cap ((List.range len).map fun i => (Sx i).data.toList) :=
  .inr ⟨x, rfl, h1, h2, by simp, fun i hi => by rw [h i hi]; simp [List.getD_eq_getElem?_getD, hi]⟩
theorem IsStrs.cap {w : World} {a : Option Addr} {len cap : Nat} {ss : List (List UInt8)} (h : IsStrs w a len cap ss) : len ≤ cap ∧ cap ≤ 9223372036854775807 ∧ len = ss.length := by
  rcases h with ⟨_, h1, h2, rfl⟩ | ⟨x, _, h1, h2, h3, _⟩
  · exact ⟨by omega, by omega, by simpa using h1⟩
  · unfold maxLen at h2; omega
theorem IsStrs.rows {w : World} {a : Option Addr} {len cap : Nat} {ss : List (List UInt8)} (h : IsStrs w a len cap ss) (hl : len ≤ 1000000000000) : RowS w a cap ss := by
  rcases h with ⟨rfl, rfl, rfl, rfl⟩ | ⟨x, rfl, h1, h2, rfl, h4⟩
  · exact ⟨by simp, by simp, by simp, fun _ => rfl⟩
  · refine ⟨h1, hl, fun i hi => ?_, fun e => (by cases e)⟩
    have hc := h4 i hi
    obtain ⟨b, off, spot⟩ := x
    have hs : spot = none := by simpa [Addr.add] using World.cell?_spot (h4 0 (by omega))
    subst hs
    refine ⟨b, off, rfl, ?_⟩
    by_cases e : i = 0
    · subst e; simpa [Addr.add] using hc
    · simpa [Addr.add, e] using hc
end Go.Proofs.Ytghdafgpdhbohaa.Frame
