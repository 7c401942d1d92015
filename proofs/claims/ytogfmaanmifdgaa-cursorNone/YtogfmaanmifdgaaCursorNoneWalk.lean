/- CursorNone, walked. -/
import Derived.Test.YtogfmaanmifdgaaCurNot
import Derived.Test.YtogfmaanmifdgaaCurWorks
namespace Go.Proofs.Ytogfmaanmifdgaa.Walk
open Go.RowKit Go.Proofs.Ytogfmaanmifdgaa.Dig Go.Proofs.Ytogfmaanmifdgaa.Mem Go.Proofs.Ytogfmaanmifdgaa.Cur
set_option linter.unusedVariables false
set_option linter.unusedSimpArgs false

theorem walk_cursorNone (w : World) (x : Int) (hx : (Lit.int .u8 x).wf = true) (n : Int) (hn : (Lit.int .i64 n).wf = true) :
    Calls Try.prog 6 #[.int .u8 x, .int .i64 n] w fun e w' => e = .returned (.bool true) ∧ Below w.heap.size w w' := by
  have h0 : Hid (NotMade w none) := notMade_nil w
  go_enter Try.func6, Try.ntmps6
  go_wp2_with (first | (go_at_call 18; with_reducible refine (none_not none _ _ _ h0).mono ?_; rintro e w' ⟨rfl, hw⟩; replace hw := hw.symm; subst hw) | (go_at_call 18; refine (none_not (some ⟨w.heap.size, 0, none⟩) _ _ _ (notMade_zero _ w.heap.size _ (Is.made _ _ _ rfl) rfl)).mono ?_; rintro e w' ⟨rfl, hw⟩; replace hw := hw.symm; subst hw) | (go_at_call 7; refine (works_any _).mono ?_; rintro e w2 ⟨rfl, hb⟩))
  go_ret
  exact ⟨rfl, ((Below.refl _ _).alloc (Nat.le_refl _) _).trans (hb.mono (by simp))⟩
end Go.Proofs.Ytogfmaanmifdgaa.Walk
