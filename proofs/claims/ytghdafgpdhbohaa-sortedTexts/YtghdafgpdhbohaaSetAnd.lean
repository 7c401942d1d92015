/- And, Minus: what is in both sets, and what is in the one alone. -/
import Derived.Test.YtghdafgpdhbohaaSetPart
namespace Go.Proofs.Ytghdafgpdhbohaa.Sets
open Go.RowKit Go.Proofs.Ytghdafgpdhbohaa.Dig Go.Proofs.Ytghdafgpdhbohaa.Mem
set_option linter.unusedVariables false
set_option linter.unusedSimpArgs false

theorem and_any (v tv : Value) (s t : List Int) (w : World) (h : SetV w v s) (ht : SetV w tv t) (hs : s.length ≤ 500000) (htl : t.length ≤ 500000) (hrt : Rising ltI t) :
    Calls Try.prog 11 #[v, tv] w fun e w' => ∃ v', e = .returned v' ∧ SetV w' v' (partL t true s) ∧ FreshV w.heap.size v' ∧ Below w.heap.size w w' := by
  have HC : Hid (∀ T U V : TypeId, Calls Try.prog 35 #[v, tv, .bool true] (((w.alloc (.cells v.cells T)).alloc (.cells tv.cells U)).alloc (.cells #[.slice none 0 0] V)) fun e w' => ∃ v', e = .returned v' ∧ SetV w' v' (partL t true s) ∧ FreshV (((w.alloc (.cells v.cells T)).alloc (.cells tv.cells U)).alloc (.cells #[.slice none 0 0] V)).heap.size v' ∧ Below (((w.alloc (.cells v.cells T)).alloc (.cells tv.cells U)).alloc (.cells #[.slice none 0 0] V)).heap.size (((w.alloc (.cells v.cells T)).alloc (.cells tv.cells U)).alloc (.cells #[.slice none 0 0] V)) w') := by
    intro T U V
    have hb : Below w.heap.size w (((w.alloc (.cells v.cells T)).alloc (.cells tv.cells U)).alloc (.cells #[.slice none 0 0] V)) := (((Below.refl _ _).alloc (Nat.le_refl _) _).alloc (by simp) _).alloc (by simp; omega) _
    exact part_any v tv s t true _ (h.keep hb) (ht.keep hb) hs htl hrt
  obtain ⟨a, c, rfl, -⟩ := h
  obtain ⟨a2, c2, rfl, -⟩ := ht
  simp only [Value.cells] at HC
  obtain ⟨n, hn⟩ : ∃ n, n = s.length := ⟨_, rfl⟩
  obtain ⟨m, hm⟩ : ∃ m, m = t.length := ⟨_, rfl⟩
  rw [← hn, ← hm] at HC ⊢
  clear hn hm hs htl hrt
  go_enter Try.func11, Try.ntmps11
  go_wp2_with (go_at_call 35; go_must ((refine (HC.out _ _ _).mono ?_); rintro e w9 ⟨v9, rfl, ⟨a9, c9, rfl, hr9⟩, hf9, hb9⟩; have HF9 := hide hf9; clear hf9; have HR9 := hide hr9; have HB9 := hide hb9; have h2 : Is w9 (w.heap.size + 1 + 1) #[.slice none 0 0] := (Is.made _ _ _ (by simp)).below hb9; have hc2 : w9.cell? ⟨w.heap.size + 1 + 1, 0, none⟩ = some (.slice none 0 0) := h2.cell 0 rfl; have hf2 := h2.frozen 0; have H2 := hide h2; clear hr9 hb9 h2))
  have hb : Below w.heap.size w w9 := ((((Below.refl _ _).alloc (Nat.le_refl _) _).alloc (by simp) _).alloc (by simp; omega) _).trans (HB9.out.mono (by simp; omega))
  have hs9 := hb.size
  have hc3 : (w9.setCell ⟨w.heap.size + 1 + 1, 0, none⟩ (.slice a9 (partL t true s).length c9)).cell? ⟨w.heap.size + 1 + 1, 0, none⟩ = some (.slice a9 (partL t true s).length c9) := (H2.out.set 0 _).cell 0 rfl
  have hF := HF9.out
  simp only [World.size_alloc] at hF
  refine bodyPost_ret (v := .agg #[.slice a9 (partL t true s).length c9]) (by simp [results, Try.results11, go_sem, hc3]) rfl ⟨_, rfl, ⟨_, _, rfl, ?_⟩, fun b o sp n c e hn => by have := hF b o sp n c e hn; omega, hb.setCell (p := ⟨w.heap.size + 1 + 1, 0, none⟩) (by simp; omega) _⟩
  exact HR9.out.put (fun b o sp e hp => by subst e; have := hF b o sp _ _ rfl hp; omega) _
theorem minus_any (v tv : Value) (s t : List Int) (w : World) (h : SetV w v s) (ht : SetV w tv t) (hs : s.length ≤ 500000) (htl : t.length ≤ 500000) (hrt : Rising ltI t) :
    Calls Try.prog 12 #[v, tv] w fun e w' => ∃ v', e = .returned v' ∧ SetV w' v' (partL t false s) ∧ FreshV w.heap.size v' ∧ Below w.heap.size w w' := by
  have HC : Hid (∀ T U V : TypeId, Calls Try.prog 35 #[v, tv, .bool false] (((w.alloc (.cells v.cells T)).alloc (.cells tv.cells U)).alloc (.cells #[.slice none 0 0] V)) fun e w' => ∃ v', e = .returned v' ∧ SetV w' v' (partL t false s) ∧ FreshV (((w.alloc (.cells v.cells T)).alloc (.cells tv.cells U)).alloc (.cells #[.slice none 0 0] V)).heap.size v' ∧ Below (((w.alloc (.cells v.cells T)).alloc (.cells tv.cells U)).alloc (.cells #[.slice none 0 0] V)).heap.size (((w.alloc (.cells v.cells T)).alloc (.cells tv.cells U)).alloc (.cells #[.slice none 0 0] V)) w') := by
    intro T U V
    have hb : Below w.heap.size w (((w.alloc (.cells v.cells T)).alloc (.cells tv.cells U)).alloc (.cells #[.slice none 0 0] V)) := (((Below.refl _ _).alloc (Nat.le_refl _) _).alloc (by simp) _).alloc (by simp; omega) _
    exact part_any v tv s t false _ (h.keep hb) (ht.keep hb) hs htl hrt
  obtain ⟨a, c, rfl, -⟩ := h
  obtain ⟨a2, c2, rfl, -⟩ := ht
  simp only [Value.cells] at HC
  obtain ⟨n, hn⟩ : ∃ n, n = s.length := ⟨_, rfl⟩
  obtain ⟨m, hm⟩ : ∃ m, m = t.length := ⟨_, rfl⟩
  rw [← hn, ← hm] at HC ⊢
  clear hn hm hs htl hrt
  go_enter Try.func12, Try.ntmps12
  go_wp2_with (go_at_call 35; go_must ((refine (HC.out _ _ _).mono ?_); rintro e w9 ⟨v9, rfl, ⟨a9, c9, rfl, hr9⟩, hf9, hb9⟩; have HF9 := hide hf9; clear hf9; have HR9 := hide hr9; have HB9 := hide hb9; have h2 : Is w9 (w.heap.size + 1 + 1) #[.slice none 0 0] := (Is.made _ _ _ (by simp)).below hb9; have hc2 : w9.cell? ⟨w.heap.size + 1 + 1, 0, none⟩ = some (.slice none 0 0) := h2.cell 0 rfl; have hf2 := h2.frozen 0; have H2 := hide h2; clear hr9 hb9 h2))
  have hb : Below w.heap.size w w9 := ((((Below.refl _ _).alloc (Nat.le_refl _) _).alloc (by simp) _).alloc (by simp; omega) _).trans (HB9.out.mono (by simp; omega))
  have hs9 := hb.size
  have hc3 : (w9.setCell ⟨w.heap.size + 1 + 1, 0, none⟩ (.slice a9 (partL t false s).length c9)).cell? ⟨w.heap.size + 1 + 1, 0, none⟩ = some (.slice a9 (partL t false s).length c9) := (H2.out.set 0 _).cell 0 rfl
  have hF := HF9.out
  simp only [World.size_alloc] at hF
  refine bodyPost_ret (v := .agg #[.slice a9 (partL t false s).length c9]) (by simp [results, Try.results12, go_sem, hc3]) rfl ⟨_, rfl, ⟨_, _, rfl, ?_⟩, fun b o sp n c e hn => by have := hF b o sp n c e hn; omega, hb.setCell (p := ⟨w.heap.size + 1 + 1, 0, none⟩) (by simp; omega) _⟩
  exact HR9.out.put (fun b o sp e hp => by subst e; have := hF b o sp _ _ rfl hp; omega) _
end Go.Proofs.Ytghdafgpdhbohaa.Sets
