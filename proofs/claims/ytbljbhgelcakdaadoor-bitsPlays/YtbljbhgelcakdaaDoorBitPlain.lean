/- Sets of small numbers, as rows of truths: plain. -/
import Derived.WalkKit
namespace Go.Proofs.YtbljbhgelcakdaaDoor.Bit
set_option linter.unusedVariables false
set_option linter.unusedSimpArgs false

def newB (n : Int) (all : Bool) : List Bool := List.replicate (max 0 (min n 65536)).toNat all
def putB (so : Bool) (m : List Bool) (x : Int) : List Bool := if 0 ≤ x ∧ x < (m.length : Int) then m.set x.toNat so else m
def setB (m : List Bool) (l : List Int) (so : Bool) : List Bool := l.foldl (putB so) m
def hasB (m : List Bool) (k : Int) : Bool := decide (0 ≤ k ∧ k < (m.length : Int)) && m.getD k.toNat false
def listN (m : List Bool) (k : Nat) : List Int := ((List.range k).filter fun j => m.getD j false).map fun j : Nat => (j : Int)
def listB (m : List Bool) : List Int := listN m m.length
/-- No number from f on, below k. -/
def NoneB (m : List Bool) (f : Int) (k : Nat) : Prop := ∀ j, j < k → f ≤ (j : Int) → m.getD j false = false
def nextB (m : List Bool) (f : Int) : Int := match (List.range m.length).find? (fun j : Nat => decide (f ≤ (j : Int)) && m.getD j false) with
  | some j => (j : Int)
  | none => -1
def withF (how : Int) (x y : Bool) : Bool := if how = 0 then x || y else if how = 1 then x && y else if how = 2 then x && !y else x
def withB (a b : List Bool) (how : Int) : List Bool := (List.range a.length).map fun k => withF how (a.getD k false) (hasB b k)

theorem ext_getD {a b : List Bool} (hl : a.length = b.length) (h : ∀ k, k < a.length → a.getD k false = b.getD k false) : a = b := by
  apply List.ext_getElem hl
  intro i h1 h2
  have := h i h1
  rw [List.getD_eq_getElem?_getD, List.getD_eq_getElem?_getD, List.getElem?_eq_getElem h1, List.getElem?_eq_getElem h2] at this
  exact this
theorem putB_length (so : Bool) (m : List Bool) (x : Int) : (putB so m x).length = m.length := by unfold putB; split <;> simp
theorem setB_length (so : Bool) : ∀ (l : List Int) (m : List Bool), (setB m l so).length = m.length
  | [], m => rfl
  | x :: l, m => by
    show (setB (putB so m x) l so).length = _
    rw [setB_length so l, putB_length]
theorem setB_snoc (m : List Bool) (l : List Int) (x : Int) (so : Bool) : setB m (l ++ [x]) so = putB so (setB m l so) x := by simp [setB]
theorem putB_getD (so : Bool) (m : List Bool) (x : Int) (k : Nat) (hk : k < m.length) : (putB so m x).getD k false = if x = (k : Int) then so else m.getD k false := by
  unfold putB
  by_cases h : 0 ≤ x ∧ x < (m.length : Int)
  · rw [if_pos h]
    simp only [List.getD_eq_getElem?_getD, List.getElem?_set]
    by_cases e : x.toNat = k
    · have e2 : x = (k : Int) := by omega
      simp [e2, hk]
    · have e2 : x ≠ (k : Int) := by omega
      simp [e, e2]
  · rw [if_neg h, if_neg (by omega)]
theorem setB_getD (so : Bool) (k : Nat) : ∀ (l : List Int) (m : List Bool), k < m.length → (setB m l so).getD k false = if (k : Int) ∈ l then so else m.getD k false
  | [], m, _ => by simp [setB]
  | x :: l, m, hk => by
    show (setB (putB so m x) l so).getD k false = _
    rw [setB_getD so k l _ (by rw [putB_length]; exact hk), putB_getD so m x k hk]
    by_cases h1 : (k : Int) ∈ l
    · simp [h1]
    · by_cases h2 : x = (k : Int)
      · subst h2; simp
      · have h3 : ¬ (k : Int) = x := fun e => h2 e.symm
        simp [h1, h2, h3]
theorem withB_length (a b : List Bool) (how : Int) : (withB a b how).length = a.length := by simp [withB]
theorem withB_getD (a b : List Bool) (how : Int) (k : Nat) (hk : k < a.length) : (withB a b how).getD k false = withF how (a.getD k false) (hasB b k) := by
  simp [withB, List.getD_eq_getElem?_getD, hk]
theorem hasB_nat (m : List Bool) (k : Nat) : hasB m k = m.getD k false := by
  unfold hasB
  by_cases h : k < m.length
  · simp [h]
  · rw [List.getD_eq_getElem?_getD, List.getElem?_eq_none (by omega)]
    simp [h]
theorem listN_hit {m : List Bool} {k : Nat} (h : m.getD k false = true) : listN m (k + 1) = listN m k ++ [(k : Int)] := by
  simp only [listN, List.range_succ, List.filter_append, List.map_append, List.filter_cons, h, if_true, List.filter_nil, List.map_cons, List.map_nil]
theorem listN_miss {m : List Bool} {k : Nat} (h : m.getD k false = false) : listN m (k + 1) = listN m k := by
  simp [listN, List.range_succ, h, -List.getD_eq_getElem?_getD]
theorem listN_le (m : List Bool) (k : Nat) : (listN m k).length ≤ k := by
  unfold listN
  rw [List.length_map]
  exact Nat.le_trans (List.length_filter_le _ _) (by simp)
theorem mem_listB {m : List Bool} {x : Int} : x ∈ listB m ↔ hasB m x = true := by
  unfold listB listN
  rw [List.mem_map]
  constructor
  · rintro ⟨j, hj, rfl⟩
    rw [hasB_nat]
    exact (List.mem_filter.1 hj).2
  · intro h
    have h' := h
    unfold hasB at h'
    rw [Bool.and_eq_true, decide_eq_true_eq] at h'
    exact ⟨x.toNat, List.mem_filter.2 ⟨List.mem_range.2 (by omega), h'.2⟩, by omega⟩
theorem listN_rising (m : List Bool) (k : Nat) : (listN m k).Pairwise (· < ·) := by
  unfold listN
  rw [List.pairwise_map]
  exact ((List.pairwise_lt_range (n := k)).sublist List.filter_sublist).imp (fun h => by omega)
theorem nextB_hit {m : List Bool} {f : Int} {k : Nat} (hk : k < m.length) (h : m.getD k false = true) (hf : f ≤ (k : Int)) (hn : NoneB m f k) : nextB m f = k := by
  unfold nextB
  have : (List.range m.length).find? (fun j : Nat => decide (f ≤ (j : Int)) && m.getD j false) = some k := by
    rw [List.find?_eq_some_iff_append]
    refine ⟨by simp [hf, h, -List.getD_eq_getElem?_getD], List.range k, (List.range (m.length - (k + 1))).map (fun j => k + 1 + j), ?_, ?_⟩
    · obtain ⟨q, hq⟩ : ∃ q, q = m.length - (k + 1) := ⟨_, rfl⟩
      rw [← hq, show m.length = k + (1 + q) by omega, List.range_add, List.range_add]
      simp [List.map_map, Function.comp_def, Nat.add_assoc]
    · intro a ha
      have ha := List.mem_range.1 ha
      by_cases q : f ≤ (a : Int)
      · rw [hn a ha q]; simp
      · simp [q]
  rw [this]
theorem nextB_none {m : List Bool} {f : Int} (hn : NoneB m f m.length) : nextB m f = -1 := by
  unfold nextB
  have : (List.range m.length).find? (fun j : Nat => decide (f ≤ (j : Int)) && m.getD j false) = none := by
    rw [List.find?_eq_none]
    intro a ha
    have ha := List.mem_range.1 ha
    by_cases q : f ≤ (a : Int)
    · rw [hn a ha q]; simp
    · simp [q]
  rw [this]
theorem newB_length (n : Int) (all : Bool) : (newB n all).length = (max 0 (min n 65536)).toNat := by simp [newB]
end Go.Proofs.YtbljbhgelcakdaaDoor.Bit
