/- Cursors that are not there, or that no call made: their calls do nothing. -/
import Derived.Test.YtogfmaanmifdgaaCurLive
namespace Go.Proofs.Ytogfmaanmifdgaa.Cur
open Go.RowKit Go.Proofs.Ytogfmaanmifdgaa.Dig Go.Proofs.Ytogfmaanmifdgaa.Mem
set_option linter.unusedVariables false
set_option linter.unusedSimpArgs false

/-- A pointer to a cursor that no call made, or to none. -/
def NotMade (w : World) (p : Option Addr) : Prop :=
  Calls Try.prog 25 #[.pointer p] w (fun e w' => e = .returned (.bool false) ∧ w' = w) ∧ Calls Try.prog 26 #[.pointer p] w (fun e w' => e = .returned (.bool false) ∧ w' = w)
theorem notMade_nil (w : World) : NotMade w none := ⟨isMade_nil w, goesOn_nil w⟩
theorem notMade_zero (w : World) (b : Nat) (cs : Array Value) (h : Is w b cs) (hm : cs[2]? = some (.bool false)) : NotMade w (some ⟨b, 0, none⟩) := ⟨isMade_any b cs false w h hm, goesOn_not b cs w h hm⟩

theorem at_not (p : Option Addr) (w : World) (h : Hid (NotMade w p)) : Calls Try.prog 11 #[.pointer p] w fun e w' => e = .returned (.int .i64 0) ∧ w' = w := by
  go_enter Try.func11, Try.ntmps11
  go_wp2_with (go_at_call 25; refine h.out.1.mono ?_; rintro e w' ⟨rfl, hw⟩; replace hw := hw.symm; subst hw)
  go_ret
  exact ⟨rfl, rfl⟩
theorem err_not (p : Option Addr) (w : World) (h : Hid (NotMade w p)) : Calls Try.prog 10 #[.pointer p] w fun e w' => e = .returned (.tuple #[.int .i64 1, .int .i64 0]) ∧ w' = w := by
  go_enter Try.func10, Try.ntmps10
  go_wp2_with (go_at_call 25; refine h.out.1.mono ?_; rintro e w' ⟨rfl, hw⟩; replace hw := hw.symm; subst hw)
  go_ret2
  exact ⟨rfl, rfl⟩
theorem peek_not (p : Option Addr) (w : World) (h : Hid (NotMade w p)) : Calls Try.prog 13 #[.pointer p] w fun e w' => e = .returned (.tuple #[.int .u8 0, .bool false]) ∧ w' = w := by
  go_enter Try.func13, Try.ntmps13
  go_wp2_with (go_at_call 26; refine h.out.2.mono ?_; rintro e w' ⟨rfl, hw⟩; replace hw := hw.symm; subst hw)
  go_ret2
  exact ⟨rfl, rfl⟩
theorem byte_not (p : Option Addr) (x : Int) (w : World) (h : Hid (NotMade w p)) : Calls Try.prog 16 #[.pointer p, .int .u8 x] w fun e w' => e = .returned (.tuple #[]) ∧ w' = w := by
  go_enter Try.func16, Try.ntmps16
  go_wp2_with (go_at_call 26; refine h.out.2.mono ?_; rintro e w' ⟨rfl, hw⟩; replace hw := hw.symm; subst hw)
  refine bodyPost_ret (results_none rfl _ _ _) rfl ?_
  exact ⟨rfl, rfl⟩
theorem fail_not (p : Option Addr) (x y : Int) (w : World) (h : Hid (NotMade w p)) : Calls Try.prog 12 #[.pointer p, .int .i64 x, .int .i64 y] w fun e w' => e = .returned (.tuple #[]) ∧ w' = w := by
  go_enter Try.func12, Try.ntmps12
  go_wp2_with (go_at_call 26; refine h.out.2.mono ?_; rintro e w' ⟨rfl, hw⟩; replace hw := hw.symm; subst hw)
  refine bodyPost_ret (results_none rfl _ _ _) rfl ?_
  exact ⟨rfl, rfl⟩
theorem num_not (p : Option Addr) (w : World) (h : Hid (NotMade w p)) : Calls Try.prog 14 #[.pointer p] w fun e w' => e = .returned (.int .i64 0) ∧ w' = w := by
  go_enter Try.func14, Try.ntmps14
  go_wp2_with (go_at_call 26; refine h.out.2.mono ?_; rintro e w' ⟨rfl, hw⟩; replace hw := hw.symm; subst hw)
  go_ret
  exact ⟨rfl, rfl⟩
theorem list_not (p : Option Addr) (w : World) (h : Hid (NotMade w p)) : Calls Try.prog 15 #[.pointer p] w fun e w' => e = .returned (.slice none 0 0) ∧ w' = w := by
  go_enter Try.func15, Try.ntmps15
  go_wp2_with (go_at_call 26; refine h.out.2.mono ?_; rintro e w' ⟨rfl, hw⟩; replace hw := hw.symm; subst hw)
  go_ret
  exact ⟨rfl, rfl⟩
/-- A cursor that has an error: it tells nothing, and nothing turns. -/
def StuckAt (w : World) (p : Option Addr) : Prop := Calls Try.prog 26 #[.pointer p] w fun e w' => e = .returned (.bool false) ∧ w' = w
theorem stuckAt {w : World} {b : Nat} {a : Option Addr} {len cap : Nat} {s : St} (h : Cur w b a len cap s) (he : s.e ≠ 0) : StuckAt w (some ⟨b, 0, none⟩) := goesOn_no b a len cap s w h he
theorem num_stuck (p : Option Addr) (w : World) (h : Hid (StuckAt w p)) : Calls Try.prog 14 #[.pointer p] w fun e w' => e = .returned (.int .i64 0) ∧ w' = w := by
  go_enter Try.func14, Try.ntmps14
  go_wp2_with (go_at_call 26; refine h.out.mono ?_; rintro e w' ⟨rfl, hw⟩; replace hw := hw.symm; subst hw)
  go_ret
  exact ⟨rfl, rfl⟩
theorem list_stuck (p : Option Addr) (w : World) (h : Hid (StuckAt w p)) : Calls Try.prog 15 #[.pointer p] w fun e w' => e = .returned (.slice none 0 0) ∧ w' = w := by
  go_enter Try.func15, Try.ntmps15
  go_wp2_with (go_at_call 26; refine h.out.mono ?_; rintro e w' ⟨rfl, hw⟩; replace hw := hw.symm; subst hw)
  go_ret
  exact ⟨rfl, rfl⟩
theorem peek_stuck (p : Option Addr) (w : World) (h : Hid (StuckAt w p)) : Calls Try.prog 13 #[.pointer p] w fun e w' => e = .returned (.tuple #[.int .u8 0, .bool false]) ∧ w' = w := by
  go_enter Try.func13, Try.ntmps13
  go_wp2_with (go_at_call 26; refine h.out.mono ?_; rintro e w' ⟨rfl, hw⟩; replace hw := hw.symm; subst hw)
  go_ret2
  exact ⟨rfl, rfl⟩
theorem none_not (p : Option Addr) (x n : Int) (w : World) (h : Hid (NotMade w p)) : Calls Try.prog 18 #[.pointer p, .int .u8 x, .int .i64 n] w fun e w' => e = .returned (.bool true) ∧ w' = w := by
  go_enter Try.func18, Try.ntmps18
  go_wp2_with (first | (go_at_call 16; refine (byte_not _ _ _ h).mono ?_; rintro e w' ⟨rfl, hw⟩; replace hw := hw.symm; subst hw) | (go_at_call 12; refine (fail_not _ _ _ _ h).mono ?_; rintro e w' ⟨rfl, hw⟩; replace hw := hw.symm; subst hw) | (go_at_call 13; refine (peek_not _ _ h).mono ?_; rintro e w' ⟨rfl, hw⟩; replace hw := hw.symm; subst hw) | (go_at_call 10; refine (err_not _ _ h).mono ?_; rintro e w' ⟨rfl, hw⟩; replace hw := hw.symm; subst hw) | (go_at_call 14; refine (num_not _ _ h).mono ?_; rintro e w' ⟨rfl, hw⟩; replace hw := hw.symm; subst hw) | (go_at_call 15; refine (list_not _ _ h).mono ?_; rintro e w' ⟨rfl, hw⟩; replace hw := hw.symm; subst hw) | (go_at_call 11; refine (at_not _ _ h).mono ?_; rintro e w' ⟨rfl, hw⟩; replace hw := hw.symm; subst hw))
  go_ret
  exact ⟨rfl, rfl⟩
end Go.Proofs.Ytogfmaanmifdgaa.Cur
