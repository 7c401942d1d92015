/- PipeNone, walked. -/
import Derived.Test.YthajooipaiiieaaPipeInt
namespace Go.Proofs.Ythajooipaiiieaa.Walk
open Go.RowKit Go.Proofs.Ythajooipaiiieaa.Dig Go.Proofs.Ythajooipaiiieaa.Mem Go.Proofs.Ythajooipaiiieaa.DqI Go.Proofs.Ythajooipaiiieaa.Thing
set_option linter.unusedVariables false
set_option linter.unusedSimpArgs false

theorem walk_pipeNone (w : World) (x : Int) (hx : (Lit.int .i64 x).wf = true) :
    Calls Try.prog 5 #[.int .i64 x] w fun e w' => e = .returned (.bool true) ∧ Below w.heap.size w w' := by
  have H0 : Hid (PE w w.heap.size 0 0 false [] [] (w.alloc (.cells #[.slice none 0 0, .int .i64 0, .int .i64 0, .int .i64 0, .int .i64 0, .bool false] 59))) := PE.new (Kn.start w) 0 59 rfl
  have N1 := hide (none_un x H0)
  go_enter Try.func5, Try.ntmps5
  go_wp2_with (first
    | (go_at_call 27; ((with_reducible refine (none_nil x _).mono ?_)); go_must (rintro e w0 ⟨rfl, rfl⟩))
    | (go_at_call 27; ((with_reducible refine (Hid.out N1).mono ?_)); go_must (rintro e w1 ⟨rfl, H1⟩))
    | (go_at_call 8; go_must ((with_reducible refine (works8_any _).mono ?_); rintro e w2 ⟨rfl, hb⟩)))
  go_ret
  exact ⟨rfl, H1.out.below.trans (hb.mono H1.out.below.size)⟩
end Go.Proofs.Ythajooipaiiieaa.Walk
