/- An argument []string: nil, or a row of texts; without the shelf. -/
import Derived.Test.YthajooipaiiieaaFrame
import Derived.Test.YthajooipaiiieaaMem
import Derived.Deep.Strs
namespace Go.Proofs.Ythajooipaiiieaa.Frame
open Go.RowKit Go.Proofs.Ythajooipaiiieaa.Mem Go.Proofs.Ythajooipaiiieaa.Dig
set_option linter.unusedVariables false

/-- A slice value that reads a list of texts. -/
structure RowS (w : World) (a : Option Addr) (c : Nat) (l : List (List UInt8)) : Prop where
  cap : l.length ≤ c
  le : l.length ≤ 1000000000000
  rd : ∀ i, i < l.length → ∃ b off, a = some ⟨b, off, none⟩ ∧ w.cell? ⟨b, off + i, none⟩ = some (.string ⟨(l.getD i []).toArray⟩)
  nil : a = none → c = 0
theorem RowS.keep {w w' : World} {a : Option Addr} {c : Nat} {l : List (List UInt8)} (h : RowS w a c l) (hb : Below w.heap.size w w') : RowS w' a c l :=
  ⟨h.cap, h.le, fun i hi => by
    obtain ⟨b, off, e, hc⟩ := h.rd i hi
    exact ⟨b, off, e, by rw [hb.cell (lt_of_cell hc)]; exact hc⟩, h.nil⟩
theorem RowS.at {w : World} {a : Option Addr} {c : Nat} {l : List (List UInt8)} (h : RowS w a c l) {i : Nat} (hi : i < l.length) : ∃ b off, a = some ⟨b, off, none⟩ ∧ w.cell? ⟨b, off + i, none⟩ = some (.string ⟨(l.getD i []).toArray⟩) := h.rd i hi
def IsStrs (w : World) (a : Option Addr) (len cap : Nat) (ss : List (List UInt8)) : Prop :=
  (a = none ∧ len = 0 ∧ cap = 0 ∧ ss = []) ∨
  ∃ x, a = some x ∧ len ≤ cap ∧ cap ≤ maxLen ∧ ss.length = len ∧ (∀ i, i < len → w.cell? (x.add i) = some (.string ⟨(ss.getD i []).toArray⟩))
theorem IsStrs.of {w : World} {x : Addr} {len cap : Nat} (h1 : len ≤ cap) (h2 : cap ≤ maxLen) (Sx : Nat → ByteArray) (h : ∀ i, i < len → w.cell? (x.add i) = some (.string (Sx i))) : IsStrs w (some x) len cap ((List.range len).map fun i => (Sx i).data.toList) :=
  .inr ⟨x, rfl, h1, h2, by simp, fun i hi => by rw [h i hi]; simp [List.getD_eq_getElem?_getD, hi]⟩
theorem IsStrs.cap {w : World} {a : Option Addr} {len cap : Nat} {ss : List (List UInt8)} (h : IsStrs w a len cap ss) : len ≤ cap ∧ cap ≤ 9223372036854775807 ∧ len = ss.length := by
  rcases h with ⟨_, h1, h2, rfl⟩ | ⟨x, _, h1, h2, h3, _⟩
  · exact ⟨by omega, by omega, by simpa using h1⟩
  · unfold maxLen at h2; omega
theorem IsStrs.rows {w : World} {a : Option Addr} {len cap : Nat} {ss : List (List UInt8)} (h : IsStrs w a len cap ss) (hl : len ≤ 1000000000000) : RowS w a cap ss := by
  rcases h with ⟨rfl, rfl, rfl, rfl⟩ | ⟨x, rfl, h1, h2, rfl, h4⟩
  · exact ⟨by simp, by simp, by simp, fun _ => rfl⟩
  · refine ⟨h1, hl, fun i hi => ?_, fun e => (by cases e)⟩
    have hc := h4 i hi
    obtain ⟨b, off, spot⟩ := x
    have hs : spot = none := by simpa [Addr.add] using World.cell?_spot (h4 0 (by omega))
    subst hs
    refine ⟨b, off, rfl, ?_⟩
    by_cases e : i = 0
    · subst e; simpa [Addr.add] using hc
    · simpa [Addr.add, e] using hc
end Go.Proofs.Ythajooipaiiieaa.Frame
