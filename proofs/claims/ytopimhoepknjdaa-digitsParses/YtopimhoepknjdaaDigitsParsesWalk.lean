/- The walk of DigitsParses: whatever the bytes and the place are, it returns true and writes nothing that was there. -/
import Derived.Test.YtopimhoepknjdaaDigWorks
import Derived.Test.YtopimhoepknjdaaFrame
namespace Go.Proofs.Ytopimhoepknjdaa.Walk
open Go.RowKit Dig
set_option linter.unusedVariables false
set_option linter.unusedSimpArgs false

theorem walk_digitsParses (w : World) (a : Option Addr) (len cap : Nat) (zs : List Int) (h : Frame.IsRow .u8 w a len cap zs) (at_ : Int) (wa : (Lit.int .i64 at_).wf = true) :
    Calls Try.prog 3 #[.slice a len cap, .int .i64 at_] w fun e w' => e = .returned (.bool true) ∧ Below w.heap.size w w' := by
  have hcap := h.cap
  by_cases h300 : 300 < len
  · have g300 : (300 : Int) < len := by omega
    clear h wa
    go_enter Try.func3, Try.ntmps3
    go_wp2_with (go_at_call 8; with_reducible refine (works_any _).mono ?_; rintro e w2 ⟨rfl, hb2⟩)
    go_ret
    exact ⟨rfl, hb2⟩
  · have g300 : ¬ (300 : Int) < len := by omega
    have hr := h.rd (by omega)
    obtain ⟨z, hz⟩ : ∃ z : Nat → Int, (fun i => zs.getD i 0) = z := ⟨_, rfl⟩
    rw [hz] at hr
    clear h wa hz
    obtain ⟨n, t, b, hp⟩ : ∃ n t b, Hid (parse z len at_ = (n, t, b)) := ⟨_, _, _, rfl⟩
    go_enter Try.func3, Try.ntmps3
    go_wp2_with (first | (go_at_call 9; with_reducible refine (parse_eq _ _ _ z _ _ hr hp).mono ?_; rintro e w' ⟨rfl, hq⟩; replace hq := hq.symm; subst hq) | (go_at_call 10; with_reducible refine (rparse_eq _ _ _ z _ _ hr hcap.1 hp).mono ?_; rintro e w' ⟨rfl, hq⟩; replace hq := hq.symm; subst hq) | (go_at_call 8; with_reducible refine (works_any _).mono ?_; rintro e w2 ⟨rfl, hb2⟩))
    go_ret
    exact ⟨rfl, hb2⟩
end Go.Proofs.Ytopimhoepknjdaa.Walk
