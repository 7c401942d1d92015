/- A row in a ring, plainly. -/
import Derived.Test.YthajooipaiiieaaDigPlain
namespace Go.Proofs.Ythajooipaiiieaa.Dq
set_option linter.unusedVariables false

/-- A ring of n places that bears l from the place t on. -/
structure Ring {α : Type} (d : α) (n t : Nat) (rs l : List α) : Prop where
  len : rs.length = n
  cnt : l.length ≤ n
  top : t < n
  at_ : ∀ i, i < l.length → rs.getD ((t + i) % n) d = l.getD i d
section
variable {α : Type} {d : α} {n t : Nat} {rs l : List α}
theorem mod_inj {n t i j : Nat} (hi : i < n) (hj : j < n) (h : (t + i) % n = (t + j) % n) : i = j := by
  have key : ∀ a b : Nat, a < n → b < n → a ≤ b → (t + a) % n = (t + b) % n → a = b := fun a b ha hb hab h => by
    have h1 := Nat.sub_mod_eq_zero_of_mod_eq h.symm
    rw [show t + b - (t + a) = b - a by omega, Nat.mod_eq_of_lt (by omega)] at h1
    omega
  rcases Nat.le_total i j with q | q
  · exact key i j hi hj q h
  · exact (key j i hj hi q h.symm).symm
theorem Ring.lt (h : Ring d n t rs l) (k : Nat) : (t + k) % n < n := Nat.mod_lt _ (by have := h.top; omega)
theorem getD_set_self {rs : List α} {p : Nat} {x d : α} (h : p < rs.length) : (rs.set p x).getD p d = x := by
  rw [List.getD_eq_getElem?_getD, List.getElem?_set_self (by simpa using h)]; rfl
theorem getD_set_off {rs : List α} {p q : Nat} {x d : α} (h : p ≠ q) : (rs.set p x).getD q d = rs.getD q d := by
  rw [List.getD_eq_getElem?_getD, List.getD_eq_getElem?_getD, List.getElem?_set_ne h]
theorem Ring.push (h : Ring d n t rs l) (hl : l.length < n) (x : α) : Ring d n t (rs.set ((t + l.length) % n) x) (l ++ [x]) :=
  ⟨by rw [List.length_set]; exact h.len, by rw [List.length_append]; exact hl, h.top, fun i hi => by
    rw [List.length_append] at hi
    simp only [List.length_cons, List.length_nil] at hi
    by_cases e : i = l.length
    · subst e
      rw [getD_set_self (by rw [h.len]; exact h.lt _), List.getD_eq_getElem?_getD, List.getElem?_append_right (Nat.le_refl _), Nat.sub_self]
      rfl
    · have hi2 : i < l.length := by omega
      rw [getD_set_off (fun q => e (mod_inj (t := t) hl (by have := h.cnt; omega) q).symm), h.at_ i hi2, List.getD_eq_getElem?_getD, List.getD_eq_getElem?_getD, List.getElem?_append_left hi2]⟩
theorem Ring.pop {x : α} (h : Ring d n t rs (l ++ [x])) (z : α) : Ring d n t (rs.set ((t + l.length) % n) z) l ∧ rs.getD ((t + l.length) % n) d = x := by
  have hc := h.cnt
  rw [List.length_append] at hc
  simp only [List.length_cons, List.length_nil] at hc
  refine ⟨⟨by rw [List.length_set]; exact h.len, by omega, h.top, fun i hi => ?_⟩, ?_⟩
  · rw [getD_set_off (fun q => by have := mod_inj (t := t) (by omega) (by omega) q; omega), h.at_ i (by rw [List.length_append]; omega), List.getD_eq_getElem?_getD, List.getD_eq_getElem?_getD, List.getElem?_append_left hi]
  · rw [h.at_ l.length (by simp), List.getD_eq_getElem?_getD, List.getElem?_append_right (Nat.le_refl _), Nat.sub_self]
    rfl
theorem Ring.steal {x : α} (h : Ring d n t rs (x :: l)) (z : α) : Ring d n ((t + 1) % n) (rs.set ((t + 0) % n) z) l ∧ rs.getD ((t + 0) % n) d = x := by
  have hc := h.cnt
  simp only [List.length_cons] at hc
  refine ⟨⟨by rw [List.length_set]; exact h.len, by omega, h.lt _, fun i hi => ?_⟩, ?_⟩
  · have e : ((t + 1) % n + i) % n = (t + (i + 1)) % n := by
      rw [Nat.mod_add_mod]; congr 1; omega
    rw [e, getD_set_off (fun q => by have := mod_inj (t := t) (by omega) (by omega) q; omega), h.at_ (i + 1) (by simp; omega)]
    rfl
  · rw [h.at_ 0 (by simp)]
    rfl
/-- A new ring, laid out from its beginning on. -/
def laid (d : α) (m : Nat) (l : List α) (k : Nat) : List α := l.take k ++ List.replicate (m - k) d
theorem laid_length {m k : Nat} {l : List α} (hl : l.length ≤ m) (hk : k ≤ l.length) : (laid d m l k).length = m := by simp [laid]; omega
theorem laid_zero {m : Nat} {l : List α} : laid d m l 0 = List.replicate m d := by simp [laid]
theorem laid_set {m k : Nat} {l : List α} (hl : l.length ≤ m) (hk : k < l.length) : (laid d m l k).set k (l.getD k d) = laid d m l (k + 1) := by
  unfold laid
  obtain ⟨r, hr⟩ : ∃ r, m - k = r + 1 := ⟨m - k - 1, by omega⟩
  have e2 : (l.take k).length = k := by rw [List.length_take]; omega
  rw [hr, show m - (k + 1) = r by omega, List.set_append_right _ _ (by omega), e2, Nat.sub_self, List.replicate_succ, List.set_cons_zero, List.take_add_one, List.getElem?_eq_getElem hk, List.getD_eq_getElem?_getD, List.getElem?_eq_getElem hk]
  rw [List.append_assoc]
  rfl
theorem Ring.laid {m : Nat} {l : List α} (hl : l.length ≤ m) (hm : 0 < m) : Ring d m 0 (laid d m l l.length) l :=
  ⟨laid_length hl (Nat.le_refl _), hl, hm, fun i hi => by
    rw [Nat.zero_add, Nat.mod_eq_of_lt (by omega)]
    unfold Dq.laid
    rw [List.take_length, List.getD_eq_getElem?_getD, List.getElem?_append_left hi, ← List.getD_eq_getElem?_getD]⟩
end
/-- The numbers below k. -/
def upTo (k : Nat) : List Int := (List.range k).map fun i : Nat => (i : Int)
theorem upTo_succ (k : Nat) : upTo (k + 1) = upTo k ++ [(k : Int)] := by simp [upTo, List.range_succ]
theorem upTo_length (k : Nat) : (upTo k).length = k := by simp [upTo]
theorem upTo_zero : upTo 0 = [] := rfl
end Go.Proofs.Ythajooipaiiieaa.Dq
