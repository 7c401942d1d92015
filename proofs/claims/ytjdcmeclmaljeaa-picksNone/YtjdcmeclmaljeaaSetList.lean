/- What a set answers of itself: its list, how many there are, whether something is in it. -/
import Derived.Test.YtjdcmeclmaljeaaSetMake
namespace Go.Proofs.Ytjdcmeclmaljeaa.Sets
open Go.RowKit Go.Proofs.Ytjdcmeclmaljeaa.Dig Go.Proofs.Ytjdcmeclmaljeaa.Mem Go.Sort
set_option linter.unusedVariables false
set_option linter.unusedSimpArgs false

/-- A row of the call's own, as a row that is read. -/
theorem own_rowv {w : World} {base : Nat} {v : Value} {l : List Int} (h : w.ownsRow base 3 1 v l.length (l.map (Value.int .i64))) (hl : l.length ≤ 1000000000000) (hw : ∀ n ∈ l, (Lit.int .i64 n).wf = true) :
    ∃ a cap, v = .slice a l.length cap ∧ RowV w a cap l := by
  obtain ⟨a, cap, e, h1, h2⟩ := Rd.own h hl hw
  refine ⟨a, cap, e, h1, h2, fun q => ?_⟩
  subst q
  rcases h.2 with ⟨hv, _⟩ | ⟨g, cap', cur, hv, _⟩
  · rw [hv] at e; injection e with e1 e2 e3; exact e3.symm
  · rw [hv] at e; injection e with e1; cases e1
theorem clone_fresh (a : Option Addr) (c : Nat) (l : List Int) (w : World) (h : RowV w a c l) (hm : l.length ≤ 1000000) :
    Calls Try.prog 17 #[.slice a l.length c] w fun e w' => (∃ a' c', e = .returned (.slice a' l.length c') ∧ RowV w' a' c' l ∧ ∀ x, a' = some x → w.heap.size ≤ x.block) ∧ Below w.heap.size w w' := by
  cases a with
  | none =>
    have hl0 : l = [] := by
      cases l with
      | nil => rfl
      | cons x l => obtain ⟨b, off, e, _⟩ := h.at (i := 0) (by simp); cases e
    subst hl0
    refine (Try.slices_Clone_int_nil 0 c w).mono ?_
    rintro e w' ⟨rfl, rfl⟩
    exact ⟨⟨none, 0, rfl, ⟨by simp, ⟨by simp, by simp⟩, fun _ => rfl⟩, fun x e => by cases e⟩, Below.refl _ _⟩
  | some ad =>
    by_cases h0 : l = []
    · subst h0
      refine (Try.slices_Clone_int_zero ad c w).mono ?_
      rintro e w' ⟨v', rfl, hown, _, hb⟩
      obtain ⟨a', c', rfl, hr⟩ := own_rowv (l := []) hown (by simp) (by simp)
      exact ⟨⟨_, _, rfl, hr, fun x e => by subst e; exact (World.ownsRow.lt hown x.block rfl).1⟩, hb⟩
    · obtain ⟨b, off, e, _⟩ := h.at (i := 0) (by cases l with
        | nil => exact absurd rfl h0
        | cons x l => simp)
      cases e
      refine (Try.slices_Clone_int b off l.length c l w (Nat.le_refl _) (by omega) (fun j hj => ?_)).mono ?_
      · obtain ⟨b', off', e, hc⟩ := h.at hj
        cases e
        exact hc
      · rintro e w' ⟨v', rfl, hown, _, hb⟩
        rw [List.take_length] at hown
        obtain ⟨a', c', rfl, hr⟩ := own_rowv hown (by omega) h.wf
        exact ⟨⟨_, _, rfl, hr, fun x e => by subst e; exact (World.ownsRow.lt hown x.block rfl).1⟩, hb⟩
theorem clone_any (a : Option Addr) (c : Nat) (l : List Int) (w : World) (h : RowV w a c l) (hm : l.length ≤ 1000000) :
    Calls Try.prog 17 #[.slice a l.length c] w fun e w' => (∃ a' c', e = .returned (.slice a' l.length c') ∧ RowV w' a' c' l) ∧ Below w.heap.size w w' := by
  refine (clone_fresh a c l w h hm).mono ?_
  rintro e w' ⟨⟨a', c', rfl, h1, _⟩, h2⟩
  exact ⟨⟨a', c', rfl, h1⟩, h2⟩
theorem list_any (v : Value) (s : List Int) (w : World) (h : SetV w v s) (hm : s.length ≤ 1000000) :
    Calls Try.prog 22 #[v] w fun e w' => (∃ a c, e = .returned (.slice a s.length c) ∧ RowV w' a c s) ∧ Below w.heap.size w w' := by
  obtain ⟨a, c, rfl, hr⟩ := h
  have H0 : Hid (∀ T : TypeId, Calls Try.prog 17 #[.slice a s.length c] (w.alloc (.cells #[.slice a s.length c] T)) fun e w' => (∃ a' c', e = .returned (.slice a' s.length c') ∧ RowV w' a' c' s) ∧ Below (w.alloc (.cells #[.slice a s.length c] T)).heap.size (w.alloc (.cells #[.slice a s.length c] T)) w') :=
    fun T => clone_any a c s _ (hr.keep ((Below.refl _ _).alloc (Nat.le_refl _) _)) hm
  obtain ⟨n, hn⟩ : ∃ n, n = s.length := ⟨_, rfl⟩
  rw [← hn] at H0 ⊢
  clear hn hr hm
  go_enter Try.func22, Try.ntmps22
  go_wp2_with (go_at_call 17; go_must ((with_reducible refine (H0.out _).mono ?_); rintro e w9 ⟨⟨a9, c9, rfl, hr9⟩, hb9⟩; have HR := hide hr9; have HB := hide hb9; clear hr9 hb9))
  go_ret
  exact ⟨⟨_, _, rfl, HR.out⟩, ((Below.refl _ _).alloc (Nat.le_refl _) _).trans (HB.out.mono (by simp))⟩
theorem len_any (v : Value) (s : List Int) (w : World) (h : SetV w v s) :
    Calls Try.prog 21 #[v] w fun e w' => e = .returned (.int .i64 (s.length : Int)) ∧ Below w.heap.size w w' := by
  obtain ⟨a, c, rfl, hr⟩ := h
  go_enter Try.func21, Try.ntmps21
  go_wp2
  go_ret
  exact ⟨rfl, (Below.refl _ _).alloc (Nat.le_refl _) _⟩
end Go.Proofs.Ytjdcmeclmaljeaa.Sets
