/- What a set answers of itself: its list, how many there are, whether something is in it. -/
import Derived.Test.YtghdafgpdhbohaaTxtMake
namespace Go.Proofs.Ytghdafgpdhbohaa.SetsT
open Go.RowKit Go.Proofs.Ytghdafgpdhbohaa.Sets Go.Proofs.Ytghdafgpdhbohaa.Dig Go.Proofs.Ytghdafgpdhbohaa.Mem Go.Sort
set_option linter.unusedVariables false
set_option linter.unusedSimpArgs false

/-- A row of the call's own, as a row that is read. -/
theorem own_rowt {w : World} {base : Nat} {v : Value} {l : List (List UInt8)} (h : w.ownsRow base 9 1 v l.length (l.map encStr)) (hl : l.length ≤ 1000000000000) (hw : ∀ n ∈ l, n.length ≤ 1000) :
    ∃ a cap, v = .slice a l.length cap ∧ RowT w a cap l := by
  rcases h.2 with ⟨rfl, h0⟩ | ⟨g, cap, cur, rfl, _, _, h1, _, _, _⟩
  · exact ⟨none, 0, by rw [h0], by omega, hl, fun i hi => by omega, fun _ => rfl, hw⟩
  · refine ⟨_, cap, rfl, h1, hl, fun i hi => ⟨g, 0, rfl, ?_⟩, fun e => (by cases e), hw⟩
    rw [Nat.zero_add, h.cellAt i (by omega), List.getElem?_map, List.getD_eq_getElem?_getD, List.getElem?_eq_getElem hi]
    rfl
theorem clone_any (a : Option Addr) (c : Nat) (l : List (List UInt8)) (w : World) (h : RowT w a c l) (hm : l.length ≤ 1000000) :
    Calls Try.prog 42 #[.slice a l.length c] w fun e w' => (∃ a' c', e = .returned (.slice a' l.length c') ∧ RowT w' a' c' l) ∧ Below w.heap.size w w' := by
  cases a with
  | none =>
    have hl0 : l = [] := by
      cases l with
      | nil => rfl
      | cons x l => obtain ⟨b, off, e, _⟩ := h.at (i := 0) (by simp); cases e
    subst hl0
    refine (Try.slices_Clone_string_nil 0 c w).mono ?_
    rintro e w' ⟨rfl, rfl⟩
    exact ⟨⟨none, 0, rfl, ⟨by simp, by simp, by simp, fun _ => rfl, by simp⟩⟩, Below.refl _ _⟩
  | some ad =>
    by_cases h0 : l = []
    · subst h0
      refine (Try.slices_Clone_string_zero ad c w).mono ?_
      rintro e w' ⟨v', rfl, hown, _, hb⟩
      obtain ⟨a', c', rfl, hr⟩ := own_rowt (l := []) hown (by simp) (by simp)
      exact ⟨⟨_, _, rfl, hr⟩, hb⟩
    · obtain ⟨b, off, e, _⟩ := h.at (i := 0) (by cases l with
        | nil => exact absurd rfl h0
        | cons x l => simp)
      cases e
      refine (Try.slices_Clone_string b off l.length c (l.map fun x => ⟨x.toArray⟩) w (by simp) (by omega) (fun j hj => ?_)).mono ?_
      · have hj2 : j < l.length := by simpa using hj
        obtain ⟨b', off', e, hc⟩ := h.at hj2
        cases e
        rw [hc]
        simp [List.getD_eq_getElem?_getD, List.getElem?_eq_getElem hj2]
      · rintro e w' ⟨v', rfl, hown, _, hb⟩
        rw [List.take_of_length_le (by simp), List.map_map] at hown
        obtain ⟨a', c', rfl, hr⟩ := own_rowt (l := l) hown (by omega) h.wf
        exact ⟨⟨_, _, rfl, hr⟩, hb⟩
theorem list_any (v : Value) (s : List (List UInt8)) (w : World) (h : SetV w v s) (hm : s.length ≤ 1000000) :
    Calls Try.prog 25 #[v] w fun e w' => (∃ a c, e = .returned (.slice a s.length c) ∧ RowT w' a c s) ∧ Below w.heap.size w w' := by
  obtain ⟨a, c, rfl, hr⟩ := h
  have H0 : Hid (∀ T : TypeId, Calls Try.prog 42 #[.slice a s.length c] (w.alloc (.cells #[.slice a s.length c] T)) fun e w' => (∃ a' c', e = .returned (.slice a' s.length c') ∧ RowT w' a' c' s) ∧ Below (w.alloc (.cells #[.slice a s.length c] T)).heap.size (w.alloc (.cells #[.slice a s.length c] T)) w') :=
    fun T => clone_any a c s _ (hr.keep ((Below.refl _ _).alloc (Nat.le_refl _) _)) hm
  obtain ⟨n, hn⟩ : ∃ n, n = s.length := ⟨_, rfl⟩
  rw [← hn] at H0 ⊢
  clear hn hr hm
  go_enter Try.func25, Try.ntmps25
  go_wp2_with (go_at_call 42; go_must ((with_reducible refine (H0.out _).mono ?_); rintro e w9 ⟨⟨a9, c9, rfl, hr9⟩, hb9⟩; have HR := hide hr9; have HB := hide hb9; clear hr9 hb9))
  go_ret
  exact ⟨⟨_, _, rfl, HR.out⟩, ((Below.refl _ _).alloc (Nat.le_refl _) _).trans (HB.out.mono (by simp))⟩
end Go.Proofs.Ytghdafgpdhbohaa.SetsT
