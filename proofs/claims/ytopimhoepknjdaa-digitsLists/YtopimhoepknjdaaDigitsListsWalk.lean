/- The walk of DigitsLists: whatever the bytes and the place are, it returns true and writes nothing that was there. -/
import Derived.Test.YtopimhoepknjdaaDigWorks
import Derived.Test.YtopimhoepknjdaaFrame
namespace Go.Proofs.Ytopimhoepknjdaa.Walk
open Go.RowKit Dig
set_option linter.unusedVariables false
set_option linter.unusedSimpArgs false

theorem walk_digitsLists (w : World) (a : Option Addr) (len cap : Nat) (zs : List Int) (h : Frame.IsRow .u8 w a len cap zs) (at_ : Int) (wa : (Lit.int .i64 at_).wf = true) :
    Calls Try.prog 4 #[.slice a len cap, .int .i64 at_] w fun e w' => e = .returned (.bool true) ∧ Below w.heap.size w w' := by
  have hcap := h.cap
  by_cases h300 : 300 < len
  · have g300 : (300 : Int) < len := by omega
    clear h wa
    go_enter Try.func4, Try.ntmps4
    go_wp2_with (go_at_call 8; with_reducible refine (works_any _).mono ?_; rintro e w2 ⟨rfl, hb2⟩)
    go_ret
    exact ⟨rfl, hb2⟩
  · have g300 : ¬ (300 : Int) < len := by omega
    have hr := h.rd (by omega)
    obtain ⟨z, hz⟩ : ∃ z : Nat → Int, (fun i => zs.getD i 0) = z := ⟨_, rfl⟩
    rw [hz] at hr
    clear h wa hz
    obtain ⟨l, t, b, hp⟩ : ∃ l t b, Hid (lst z len at_ = (l, t, b)) := ⟨_, _, _, rfl⟩
    go_enter Try.func4, Try.ntmps4
    go_wp2_with (first | (go_at_call 11; with_reducible refine (list_eq _ _ _ z _ _ hr hp).mono ?_; rintro e w1 ⟨a1, c1, rfl, hb1, hr1, hc1⟩) | (go_at_call 12; with_reducible refine (rlist_eq _ _ _ z _ _ (hr.keep hb1) hcap.1 hp).mono ?_; rintro e w2 ⟨a2, c2, rfl, hb2, hr2, hc2⟩) | (go_at_call 13; with_reducible refine (same_yes _ _ _ _ _ _ _ (hr1.keep hb2) hr2).mono ?_; rintro e w3 ⟨rfl, hb3⟩) | (go_at_call 8; with_reducible refine (works_any _).mono ?_; rintro e w4 ⟨rfl, hb4⟩))
    go_ret
    refine ⟨rfl, ?_⟩
    have s1 := hb1.size
    have s2 := hb2.size
    have s3 := hb3.size
    exact ((hb1.trans (hb2.mono (by omega))).trans (hb3.mono (by omega))).trans (hb4.mono (by omega))
end Go.Proofs.Ytopimhoepknjdaa.Walk
