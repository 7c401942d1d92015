/- DequeNone, walked. -/
import Derived.Test.YtfoggnfemcnolaaDqWorks
namespace Go.Proofs.Ytfoggnfemcnolaa.Walk
open Go.RowKit Go.Proofs.Ytfoggnfemcnolaa.Dig Go.Proofs.Ytfoggnfemcnolaa.Mem Go.Proofs.Ytfoggnfemcnolaa.DqI
set_option linter.unusedVariables false
set_option linter.unusedSimpArgs false

theorem no_pop (w : World) : Calls Try.prog 8 #[.pointer none] w fun e w' => e = .returned (.tuple #[.int .i64 0, .bool false]) ∧ w' = w := pop_none (s := .nil) (w := w) rfl
theorem no_steal (w : World) : Calls Try.prog 10 #[.pointer none] w fun e w' => e = .returned (.tuple #[.int .i64 0, .bool false]) ∧ w' = w := steal_none (s := .nil) (w := w) rfl
theorem no_list (w : World) : Calls Try.prog 15 #[.pointer none] w fun e w' => ∃ a c, e = .returned (.slice a 0 c) ∧ Below w.heap.size w w' := by
  refine (list_i (s := .nil) (l := []) (w := w) rfl (fun x hx => by cases hx)).mono ?_
  rintro e w' ⟨⟨a, c, rfl, _, _⟩, hb⟩
  exact ⟨a, c, rfl, hb⟩
set_option maxHeartbeats 1000000 in
theorem walk_dequeNone (w : World) (n : Int) (hn : (Lit.int .i64 n).wf = true) :
    Calls Try.prog 6 #[.int .i64 n] w fun e w' => e = .returned (.bool true) ∧ Below w.heap.size w w' := by
  have H0 := hide (Below.refl w.heap.size w)
  go_enter Try.func6, Try.ntmps6
  go_wp2_with (first
    | (go_at_call 12; go_must ((with_reducible refine (push_nil _ _).mono ?_); rintro e w1 ⟨rfl, e1⟩; replace e1 := e1.symm; subst e1))
    | (go_at_call 8; go_must ((with_reducible refine (no_pop _).mono ?_); rintro e w1 ⟨rfl, e1⟩; replace e1 := e1.symm; subst e1))
    | (go_at_call 10; go_must ((with_reducible refine (no_steal _).mono ?_); rintro e w1 ⟨rfl, e1⟩; replace e1 := e1.symm; subst e1))
    | (go_at_call 13; go_must ((with_reducible refine (len_nil _).mono ?_); rintro e w1 ⟨rfl, e1⟩; replace e1 := e1.symm; subst e1))
    | (go_at_call 15; go_must ((with_reducible refine (no_list _).mono ?_); rintro e w2 ⟨a, c, rfl, hb⟩; have HB := hide hb; clear hb))
    | (go_at_call 7; go_must ((with_reducible refine (works7_any _).mono ?_); rintro e w3 ⟨rfl, hb⟩; have HB3 := hide hb; clear hb)))
  go_ret
  exact ⟨rfl, HB.out.trans (HB3.out.mono HB.out.size)⟩
end Go.Proofs.Ytfoggnfemcnolaa.Walk
