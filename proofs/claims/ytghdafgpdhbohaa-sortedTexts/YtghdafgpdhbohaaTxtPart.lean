/- Rows of texts of the call's own. -/
import Derived.Test.YtghdafgpdhbohaaTxtIter
import Derived.Test.YtghdafgpdhbohaaSetBox
namespace Go.Proofs.Ytghdafgpdhbohaa.SetsT
open Go.RowKit Go.Proofs.Ytghdafgpdhbohaa.Sets Go.Proofs.Ytghdafgpdhbohaa.Dig Go.Proofs.Ytghdafgpdhbohaa.Mem Go.Shelf
set_option linter.unusedVariables false
set_option linter.unusedSimpArgs false

/-- Behind a region that drew: the world may be whatever has kept what was there. -/
theorem gen_world {K : Act → World → Prop} {Q : Exit → Act → World → Prop} {a : Act} {W W2 : World} (hb : Below W.heap.size W W2) (h : ∀ W2, Below W.heap.size W W2 → Exit.then K Q .normal a W2) : Exit.then K Q .normal a W2 := h _ hb
/-- A row that is owned, read. -/
theorem rowt_of_own {w : World} {base : Nat} {a : Option Addr} {n c : Nat} {l : List (List UInt8)} (h : w.ownsRow base 9 1 (.slice a n c) l.length (l.map encStr)) (hl : l.length ≤ 1000000) (hw : ∀ n ∈ l, n.length ≤ 1000) : n = l.length ∧ RowT w a c l := by
  obtain ⟨a', c', e, hr⟩ := own_rowt h (by omega) hw
  injection e with e1 e2 e3
  subst e1; subst e2; subst e3
  exact ⟨rfl, hr⟩
theorem own_form {w : World} {base e : TypeId} {v : Value} {n : Nat} {xs : List Value} (h : w.ownsRow base e 1 v n xs) : ∃ a c, v = .slice a n c := by
  rcases h.2 with ⟨rfl, h0⟩ | ⟨g, cap, cur, rfl, _⟩
  · have : n = 0 := by omega
    exact ⟨none, 0, by rw [this]⟩
  · exact ⟨_, _, rfl⟩
theorem fresh_own {w : World} {base e : TypeId} {a : Option Addr} {n m c : Nat} {xs : List Value} (h : w.ownsRow base e 1 (.slice a n c) n xs) : FreshV base (.agg #[.slice a m c]) := fun b o sp n' c' q _ => by
  injection q with q
  simp at q
  obtain ⟨rfl, rfl, rfl⟩ := q
  exact (World.ownsRow.lt h b rfl).1
end Go.Proofs.Ytghdafgpdhbohaa.SetsT
