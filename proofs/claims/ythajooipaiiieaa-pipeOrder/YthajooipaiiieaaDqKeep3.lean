/- Three cells of a block, the others being as they are. -/
import Derived.Test.YthajooipaiiieaaDqKeep
namespace Go.Proofs.Ythajooipaiiieaa.Dq
open Go.RowKit Go.Proofs.Ythajooipaiiieaa.Mem
set_option linter.unusedVariables false
set_option linter.unusedSimpArgs false

def put3 (cs : Array Value) (o : Nat) (x y z : Value) : Array Value := ((cs.setIfInBounds o x).setIfInBounds (o + 1) y).setIfInBounds (o + 2) z
section
variable {cs : Array Value} {o : Nat} {x y z : Value}
theorem put3_size : (put3 cs o x y z).size = cs.size := by simp [put3]
theorem put3_0 (h : o + 3 ≤ cs.size) : (put3 cs o x y z)[o]? = some x := by
  unfold put3
  rw [Array.getElem?_setIfInBounds_ne (by omega), Array.getElem?_setIfInBounds_ne (by omega), Array.getElem?_setIfInBounds_self_of_lt (by omega)]
theorem put3_1 (h : o + 3 ≤ cs.size) : (put3 cs o x y z)[o + 1]? = some y := by
  unfold put3
  rw [Array.getElem?_setIfInBounds_ne (by omega), Array.getElem?_setIfInBounds_self_of_lt (by simp; omega)]
theorem put3_2 (h : o + 3 ≤ cs.size) : (put3 cs o x y z)[o + 2]? = some z := by
  unfold put3
  rw [Array.getElem?_setIfInBounds_self_of_lt (by simp; omega)]
theorem put3_off {i : Nat} (h : i < o ∨ o + 3 ≤ i) : (put3 cs o x y z)[i]? = cs[i]? := by
  unfold put3
  rw [Array.getElem?_setIfInBounds_ne (by omega), Array.getElem?_setIfInBounds_ne (by omega), Array.getElem?_setIfInBounds_ne (by omega)]
theorem put3_set0 (u : Value) : (put3 cs o x y z).setIfInBounds o u = put3 cs o u y z := by
  apply Array.ext_getElem?
  intro i
  simp only [put3, Array.getElem?_setIfInBounds, Array.size_setIfInBounds]
  grind
theorem put3_set1 (u : Value) : (put3 cs o x y z).setIfInBounds (o + 1) u = put3 cs o x u z := by
  apply Array.ext_getElem?
  intro i
  simp only [put3, Array.getElem?_setIfInBounds, Array.size_setIfInBounds]
  grind
theorem put3_set2 (u : Value) : (put3 cs o x y z).setIfInBounds (o + 2) u = put3 cs o x y u := by
  apply Array.ext_getElem?
  intro i
  simp only [put3, Array.getElem?_setIfInBounds, Array.size_setIfInBounds]
  grind
/-- Another cell of the block is turned. -/
theorem put3_swap {i : Nat} (h : i < o ∨ o + 3 ≤ i) (u : Value) : (put3 cs o x y z).setIfInBounds i u = put3 (cs.setIfInBounds i u) o x y z := by
  apply Array.ext_getElem?
  intro j
  simp only [put3, Array.getElem?_setIfInBounds, Array.size_setIfInBounds]
  grind
theorem is3 {w : World} {b : Nat} (h : Is w b (put3 cs o x y z)) (hf : o + 3 ≤ cs.size) : w.cell? ⟨b, o, none⟩ = some x ∧ w.cell? ⟨b, o + 1, none⟩ = some y ∧ w.cell? ⟨b, o + 2, none⟩ = some z := ⟨h.cell o (put3_0 hf), h.cell (o + 1) (put3_1 hf), h.cell (o + 2) (put3_2 hf)⟩
theorem is3_set0 {w : World} {b : Nat} (h : Is w b (put3 cs o x y z)) (u : Value) : Is (w.setCell ⟨b, o, none⟩ u) b (put3 cs o u y z) := by rw [← put3_set0 (x := x)]; exact h.set o u
theorem is3_set1 {w : World} {b : Nat} (h : Is w b (put3 cs o x y z)) (u : Value) : Is (w.setCell ⟨b, o + 1, none⟩ u) b (put3 cs o x u z) := by rw [← put3_set1 (y := y)]; exact h.set (o + 1) u
theorem is3_set2 {w : World} {b : Nat} (h : Is w b (put3 cs o x y z)) (u : Value) : Is (w.setCell ⟨b, o + 2, none⟩ u) b (put3 cs o x y u) := by rw [← put3_set2 (z := z)]; exact h.set (o + 2) u
end
end Go.Proofs.Ythajooipaiiieaa.Dq
