/- The walk of DigitsPrints: whatever the number is, it returns true and writes nothing that was there. -/
import Derived.Test.YtopimhoepknjdaaDigWorks
namespace Go.Proofs.Ytopimhoepknjdaa.Walk
open Go.RowKit Dig
set_option linter.unusedVariables false
set_option linter.unusedSimpArgs false

theorem print_len (n : Int) : widthS n = ((printS n).length : Int) := by
  unfold widthS printS
  split <;> simp
theorem walk_digitsPrints (w : World) (n : Int) (wn : (Lit.int .i64 n).wf = true) :
    Calls Try.prog 5 #[.int .i64 n] w fun e w' => e = .returned (.bool true) ∧ Below w.heap.size w w' := by
  have hn : n < 9223372036854775808 := by have := bounds_i64 wn; omega
  have HN : Hid (n < 9223372036854775808) := hn
  have hw : widthS n = ((printS n).length : Int) := print_len n
  clear hn wn
  go_enter Try.func5, Try.ntmps5
  go_wp2_with (first | (go_at_call 14; with_reducible refine (print_any n _ HN.out).mono ?_; rintro e w1 ⟨rfl, hb1⟩) | (go_at_call 15; with_reducible refine (rprint_any n _).mono ?_; rintro e w' ⟨rfl, hq⟩; replace hq := hq.symm; subst hq) | (go_at_call 16; with_reducible refine (width_any n _ HN.out).mono ?_; rintro e w' ⟨rfl, hq⟩; replace hq := hq.symm; subst hq; rw [hw]) | (go_at_call 8; with_reducible refine (works_any _).mono ?_; rintro e w2 ⟨rfl, hb2⟩))
  go_ret
  refine ⟨rfl, ?_⟩
  have := hb1.size
  exact hb1.trans (hb2.mono (by omega))
end Go.Proofs.Ytopimhoepknjdaa.Walk
