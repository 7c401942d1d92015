/- Who goes next, as plain functions: which one of the ready is told, by how many picks were used; and what one step answers. -/
import Derived.Test.YtjdcmeclmaljeaaSetPlain
namespace Go.Proofs.Ytjdcmeclmaljeaa.Pick
open Go.Proofs.Ytjdcmeclmaljeaa.Sets
set_option linter.unusedVariables false
set_option linter.unusedSimpArgs false

/-- The place of the one that is told, of m ready ones. -/
def place (L : List Int) (n m : Nat) : Nat := ((L.getD n 0) % (m : Int)).toNat
/-- The one that is told. -/
def told (L : List Int) (n : Nat) (l : List Int) : Int := (setL ltI l).getD (place L n (setL ltI l).length) 0
def over (c : Int) (n : Nat) : Bool := decide (0 ≤ c) && decide (c ≤ (n : Int))
/-- One step: who is told, which error, how many steps there are behind it. -/
def stepS (L : List Int) (c : Int) (n : Nat) (l : List Int) : Int × Int × Nat := if over c n = true then (0, 8, n) else if l = [] then (0, 10, n) else (told L n l, 0, n + 1)
theorem place_lt (L : List Int) (n : Nat) {m : Nat} (hm : 0 < m) : place L n m < m := by
  unfold place
  have h1 := Int.emod_nonneg (L.getD n 0) (show (m : Int) ≠ 0 by omega)
  have h2 := Int.emod_lt_of_pos (L.getD n 0) (show (0 : Int) < m by omega)
  omega
theorem place_int (L : List Int) (n : Nat) {m : Nat} (hm : 0 < m) : ((place L n m : Nat) : Int) = (L.getD n 0) % (m : Int) := by
  unfold place
  have h1 := Int.emod_nonneg (L.getD n 0) (show (m : Int) ≠ 0 by omega)
  omega
/-- Go's remainder, and the length more where it is below 0. -/
theorem tmod_place (x : Int) {m : Nat} (hm : 0 < m) : (if x.tmod (m : Int) < 0 then x.tmod (m : Int) + (m : Int) else x.tmod (m : Int)) = x % (m : Int) := by
  have h1 := Int.emod_nonneg x (show (m : Int) ≠ 0 by omega)
  have h2 := Int.emod_lt_of_pos x (show (0 : Int) < m by omega)
  rw [Int.tmod_eq_emod]
  split <;> split <;> omega
theorem setL_ne {l : List Int} (h : l ≠ []) : 0 < (setL ltI l).length := by
  cases l with
  | nil => exact absurd rfl h
  | cons x l =>
    have := (mem_setL totI (x :: l) x).2 (by simp)
    exact List.length_pos_of_mem this
theorem setL_nil : setL ltI ([] : List Int) = [] := by
  apply List.eq_nil_of_length_eq_zero
  have := setL_length (lt := ltI) ([] : List Int)
  simpa using this
theorem told_mem (L : List Int) (n : Nat) {l : List Int} (h : l ≠ []) : told L n l ∈ l := by
  have h1 := place_lt L n (setL_ne h)
  unfold told
  rw [List.getD_eq_getElem?_getD, List.getElem?_eq_getElem h1]
  exact (mem_setL totI l _).1 (List.getElem_mem h1)
/-- Where there is no pick any more: the least. -/
theorem place_none {L : List Int} {n : Nat} (h : L.length ≤ n) (m : Nat) : place L n m = 0 := by
  unfold place
  rw [List.getD_eq_getElem?_getD, List.getElem?_eq_none h]
  simp
end Go.Proofs.Ytjdcmeclmaljeaa.Pick
