/- The bytes that HistoryMost puts together, as lists: a transaction of k reads; k transactions. -/
import Derived.Test.YtkdggnfjefgonaaHistMost
namespace Go.Proofs.Ytkdggnfjefgonaa.Hist
open Go.RowKit Go.Proofs.Ytkdggnfjefgonaa.Dig Go.Proofs.Ytkdggnfjefgonaa.Mem
set_option linter.unusedVariables false
set_option linter.unusedSimpArgs false

def rbs : Nat → List Int
  | 0 => [116, 32, 48, 32, 97, 10]
  | k + 1 => rbs k ++ [114, 32, 53, 10]
def tline (k : Nat) : List Int := [49 + (k / 1000 : Nat), 48 + (k / 100 % 10 : Nat), 48 + (k / 10 % 10 : Nat), 48 + (k % 10 : Nat)]
def tbs : Nat → List Int
  | 0 => []
  | k + 1 => tbs k ++ [116, 32] ++ tline k ++ [32, 99, 10]
theorem rbs_len : ∀ k, (rbs k).length = 6 + 4 * k
  | 0 => rfl
  | k + 1 => by rw [rbs, List.length_append, rbs_len k]; simp; omega
theorem tbs_len : ∀ k, (tbs k).length = 9 * k
  | 0 => rfl
  | k + 1 => by rw [tbs]; simp [tbs_len k, tline]; omega
theorem rbs_pre : ∀ (n m : Nat), m ≤ n → ∃ r, rbs n = rbs m ++ r
  | 0, m, h => by obtain rfl : m = 0 := by omega
                  exact ⟨[], by simp⟩
  | n + 1, m, h => by
    rcases Nat.eq_or_lt_of_le h with q | q
    · subst q; exact ⟨[], by simp⟩
    · obtain ⟨r, hr⟩ := rbs_pre n m (by omega)
      exact ⟨r ++ [114, 32, 53, 10], by rw [rbs, hr]; simp⟩
theorem tbs_pre : ∀ (n m : Nat), m ≤ n → ∃ r, tbs n = tbs m ++ r
  | 0, m, h => by obtain rfl : m = 0 := by omega
                  exact ⟨[], by simp⟩
  | n + 1, m, h => by
    rcases Nat.eq_or_lt_of_le h with q | q
    · subst q; exact ⟨[], by simp⟩
    · obtain ⟨r, hr⟩ := tbs_pre n m (by omega)
      exact ⟨r ++ [116, 32] ++ tline n ++ [32, 99, 10], by rw [tbs, hr]; simp⟩
theorem get_at {l a b r : List Int} (h : l = a ++ b ++ r) {i j : Nat} (hi : i = a.length + j) (hj : j < b.length) : l.getD i 0 = b.getD j 0 := by
  subst h hi
  rw [List.getD_eq_getElem?_getD, List.getD_eq_getElem?_getD, List.append_assoc, List.getElem?_append_right (by omega), Nat.add_sub_cancel_left, List.getElem?_append_left hj]
theorem rbs_z (n : Nat) : ReadsZ (fun i => (rbs n).getD i 0) n := by
  obtain ⟨r, hr⟩ := rbs_pre n 0 (Nat.zero_le _)
  have g : ∀ j, j < 6 → (rbs n).getD j 0 = (rbs 0).getD j 0 := fun j hj => get_at (a := []) (b := rbs 0) (r := r) (by simpa using hr) (by simp) (by simpa [rbs] using hj)
  refine ⟨⟨g 0 (by omega), g 1 (by omega), g 2 (by omega), g 3 (by omega), g 4 (by omega), g 5 (by omega)⟩, fun k hk => ?_⟩
  obtain ⟨r, hr⟩ := rbs_pre n (k + 1) hk
  have g : ∀ i j, j < 4 → i = 6 + 4 * k + j → (rbs n).getD i 0 = [114, 32, 53, 10].getD j 0 := fun i j hj hi => get_at (a := rbs k) (b := [114, 32, 53, 10]) (r := r) hr (by rw [rbs_len]; exact hi) (by simpa using hj)
  exact ⟨g _ 0 (by omega) (by omega), g _ 1 (by omega) (by omega), g _ 2 (by omega) (by omega), g _ 3 (by omega) (by omega)⟩
theorem tbs_z (n : Nat) : TxnsZ (fun i => (tbs n).getD i 0) n := by
  intro k hk
  obtain ⟨r, hr⟩ := tbs_pre n (k + 1) hk
  have g : ∀ i j, j < 9 → i = 9 * k + j → (tbs n).getD i 0 = ([116, 32] ++ tline k ++ [32, 99, 10]).getD j 0 := fun i j hj hi => get_at (a := tbs k) (b := [116, 32] ++ tline k ++ [32, 99, 10]) (r := r) (by rw [hr, tbs]; simp) (by rw [tbs_len]; exact hi) (by simpa [tline] using hj)
  exact ⟨g _ 0 (by omega) (by omega), g _ 1 (by omega) (by omega), g _ 2 (by omega) (by omega), g _ 3 (by omega) (by omega), g _ 4 (by omega) (by omega), g _ 5 (by omega) (by omega), g _ 6 (by omega) (by omega), g _ 7 (by omega) (by omega), g _ 8 (by omega) (by omega)⟩
theorem rbs_wf (k : Nat) : ∀ x ∈ rbs k, (Lit.int .u8 x).wf = true := by
  induction k with
  | zero => decide
  | succ k ih =>
    intro x hx
    rcases List.mem_append.1 hx with q | q
    · exact ih x q
    · simp at q; rcases q with rfl | rfl | rfl | rfl <;> decide
theorem tbs_wf (k : Nat) (hk : k ≤ 5000) : ∀ x ∈ tbs k, (Lit.int .u8 x).wf = true := by
  induction k with
  | zero => decide
  | succ k ih =>
    intro x hx
    rw [tbs] at hx
    simp only [List.mem_append] at hx
    rcases hx with ((q | q) | q) | q
    · exact ih (by omega) x q
    · simp at q; rcases q with rfl | rfl <;> decide
    · simp [tline] at q
      rcases q with rfl | rfl | rfl | rfl <;> exact WalkArith.wf_u8 (by omega)
    · simp at q; rcases q with rfl | rfl | rfl <;> decide
end Go.Proofs.Ytkdggnfjefgonaa.Hist
