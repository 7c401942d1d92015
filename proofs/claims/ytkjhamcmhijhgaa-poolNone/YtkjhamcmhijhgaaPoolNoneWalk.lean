/- PoolNone, walked. -/
import Derived.Test.YtkjhamcmhijhgaaAll9
import Derived.Test.YtkjhamcmhijhgaaAll13
namespace Go.Proofs.Ytkjhamcmhijhgaa.Walk
open Go.RowKit Go.Proofs.Ytkjhamcmhijhgaa.Dig Go.Proofs.Ytkjhamcmhijhgaa.Mem Go.Proofs.Ytkjhamcmhijhgaa.Dq Go.Proofs.Ytkjhamcmhijhgaa.Thing Go.Proofs.Ytkjhamcmhijhgaa.Pick Go.Proofs.Ytkjhamcmhijhgaa.Sets Go.Proofs.Ytkjhamcmhijhgaa.Pool
set_option linter.unusedVariables false
set_option linter.unusedSimpArgs false

theorem none_nil (x : Int) (w : World) : Calls Try.prog 21 #[.pointer none, .int .i64 x] w fun e w' => e = .returned (.bool true) ∧ Below w.heap.size w w' := by
  go_enter Try.func21, Try.ntmps21
  go_wp2_with (first
    | (go_at_call 10; go_must ((with_reducible refine (DqI.add_nil _ _).mono ?_); rintro e w1 ⟨rfl, rfl⟩))
    | (go_at_call 11; go_must ((with_reducible refine (DqI.run_nil _ _).mono ?_); rintro e w1 ⟨rfl, rfl⟩))
    | (go_at_call 15; go_must ((with_reducible refine (DqI.done_nil _).mono ?_); rintro e w1 ⟨rfl, rfl⟩))
    | (go_at_call 38; go_must ((with_reducible refine (DqI.stolen_nil _).mono ?_); rintro e w1 ⟨rfl, rfl⟩))
    | (go_at_call 16; go_must ((with_reducible refine (DqI.left_nil _).mono ?_); rintro e w1 ⟨rfl, rfl⟩))
    | (go_at_call 18; go_must ((with_reducible refine (DqI.who_nil _).mono ?_); rintro e w1 ⟨rfl, rfl⟩)))
  go_ret
  exact ⟨rfl, (Below.refl _ _).alloc (Nat.le_refl _) _⟩
theorem who_un {w : World} {p : Nat} (h : Is w p DqI.unmade) : Calls Try.prog 18 #[.pointer (some ⟨p, 0, none⟩)] w fun e w' => (∃ a' c', e = .returned (.slice a' 0 c')) ∧ Below w.heap.size w w' := by
  refine (DqI.who_at (a := none) (c := 0) (l := []) (DqI.six0 h).2.2.2.2.2 (row_v (DqI.rowi_nil w)) (by simp)).mono ?_
  rintro e w' ⟨⟨a', c', rfl, _, _⟩, hb⟩
  exact ⟨⟨a', c', rfl⟩, hb⟩
theorem none_un (x : Int) {w : World} {p : Nat} (h : Is w p DqI.unmade) : Calls Try.prog 21 #[.pointer (some ⟨p, 0, none⟩), .int .i64 x] w fun e w' => e = .returned (.bool true) ∧ Below w.heap.size w w' := by
  have H : Hid (Is (w.alloc (.cells #[.int .i64 x] 3)) p DqI.unmade) := hide (h.alloc _)
  have HB : Hid (Below w.heap.size w (w.alloc (.cells #[.int .i64 x] 3))) := hide ((Below.refl _ _).alloc (Nat.le_refl _) _)
  clear h
  go_enter Try.func21, Try.ntmps21
  go_wp2_with (first
    | (go_at_call 10; go_must ((with_reducible refine (DqI.add_un H.out _).mono ?_); rintro e w1 ⟨rfl, rfl⟩))
    | (go_at_call 11; go_must ((with_reducible refine (DqI.run_un H.out _).mono ?_); rintro e w1 ⟨rfl, rfl⟩))
    | (go_at_call 15; go_must ((with_reducible refine (DqI.done_un H.out).mono ?_); rintro e w1 ⟨rfl, rfl⟩))
    | (go_at_call 38; go_must ((with_reducible refine (DqI.stolen_un H.out).mono ?_); rintro e w1 ⟨rfl, rfl⟩))
    | (go_at_call 16; go_must ((with_reducible refine (DqI.left_un H.out).mono ?_); rintro e w1 ⟨rfl, rfl⟩))
    | (go_at_call 18; go_must ((with_reducible refine (who_un H.out).mono ?_); rintro e w9 ⟨⟨a', c', rfl⟩, hb⟩)))
  go_ret
  exact ⟨rfl, HB.out.trans (hb.mono HB.out.size)⟩
set_option maxHeartbeats 4000000 in
set_option maxRecDepth 20000 in
theorem walk_poolNone (w : World) (r : Int) (hr : (Lit.int .i64 r).wf = true) (x : Int) (hx : (Lit.int .i64 x).wf = true) :
    Calls Try.prog 5 #[.int .i64 r, .int .i64 x] w fun e w' => e = .returned (.bool true) ∧ Below w.heap.size w w' := by
  have hb1 : Below w.heap.size w (w.alloc (.cells #[.slice none 0 0, .int .i64 0, .int .i64 0, .bool false] 43)) := (Below.refl _ _).alloc (Nat.le_refl _) _
  have HF : Hid (∀ w2, Below (w.alloc (.cells #[.slice none 0 0, .int .i64 0, .int .i64 0, .bool false] 43)).heap.size (w.alloc (.cells #[.slice none 0 0, .int .i64 0, .int .i64 0, .bool false] 43)) w2 → ∀ w3, Below (w2.alloc (.cells DqI.unmade 47)).heap.size (w2.alloc (.cells DqI.unmade 47)) w3 → ∀ w4, Below w3.heap.size w3 w4 → Below w.heap.size w w4) := hide (fun w2 h2 w3 h3 w4 h4 => by
    have b2 := hb1.trans (h2.mono hb1.size)
    have b3 := b2.alloc b2.size (.cells DqI.unmade 47)
    have b4 := b3.trans (h3.mono b3.size)
    exact b4.trans (h4.mono b4.size))
  have NU : Hid (∀ W : World, Calls Try.prog 21 #[.pointer (some ⟨W.heap.size, 0, none⟩), .int .i64 x] (W.alloc (.cells #[.slice none 0 0, .pointer none, .int .i64 0, .int .i64 0, .int .i64 0, .slice none 0 0] 47)) fun e w' => e = .returned (.bool true) ∧ Below (W.alloc (.cells DqI.unmade 47)).heap.size (W.alloc (.cells DqI.unmade 47)) w') := hide (fun W => none_un x (Is.made W DqI.unmade 47 rfl))
  clear hb1
  by_cases h : r < 1 ∨ 64 < r
  · have N1 := hide (fun W => DqI.new_no r (.pointer none) h W)
    have N2 := hide (DqI.new_no r (.pointer (some ⟨w.heap.size, 0, none⟩)) h (w.alloc (.cells #[.slice none 0 0, .int .i64 0, .int .i64 0, .bool false] 43)))
    by_cases g1 : r < 1
    · have d1 : decide (r < 1) = true := decide_eq_true g1
      have d2 : decide (1 ≤ r) = false := decide_eq_false (by omega)
      clear h
      go_enter Try.func5, Try.ntmps5
      go_wp2_with (first
              | (go_at_call 9; (with_reducible refine (N1.out _).mono ?_); go_must (rintro e w1 ⟨rfl, rfl⟩))
              | (go_at_call 9; (with_reducible refine (Hid.out N2).mono ?_); go_must (rintro e w1 ⟨rfl, rfl⟩))
              | (go_at_call 21; (with_reducible refine (none_nil _ _).mono ?_); go_must (rintro e w2 ⟨rfl, hb2⟩; have HB2 := hide hb2; clear hb2))
              | (go_at_call 21; (with_reducible refine (NU.out _).mono ?_); go_must (rintro e w3 ⟨rfl, hb3⟩; have HB3 := hide hb3; clear hb3))
              | (go_at_call 7; go_must ((with_reducible refine (works10_any _).mono ?_); rintro e w4 ⟨rfl, hb4⟩; have HB4 := hide hb4; clear hb4)))
      go_ret
      exact ⟨rfl, HF.out _ HB2.out _ HB3.out _ HB4.out⟩
    · have g2 : 64 < r := by omega
      have d1 : decide (r < 1) = false := decide_eq_false g1
      have d2 : decide (1 ≤ r) = true := decide_eq_true (by omega)
      have d3 : decide (r ≤ 64) = false := decide_eq_false (by omega)
      have d4 : decide (64 < r) = true := decide_eq_true g2
      clear h
      go_enter Try.func5, Try.ntmps5
      go_wp2_with (first
              | (go_at_call 9; (with_reducible refine (N1.out _).mono ?_); go_must (rintro e w1 ⟨rfl, rfl⟩))
              | (go_at_call 9; (with_reducible refine (Hid.out N2).mono ?_); go_must (rintro e w1 ⟨rfl, rfl⟩))
              | (go_at_call 21; (with_reducible refine (none_nil _ _).mono ?_); go_must (rintro e w2 ⟨rfl, hb2⟩; have HB2 := hide hb2; clear hb2))
              | (go_at_call 21; (with_reducible refine (NU.out _).mono ?_); go_must (rintro e w3 ⟨rfl, hb3⟩; have HB3 := hide hb3; clear hb3))
              | (go_at_call 7; go_must ((with_reducible refine (works10_any _).mono ?_); rintro e w4 ⟨rfl, hb4⟩; have HB4 := hide hb4; clear hb4)))
      go_ret
      exact ⟨rfl, HF.out _ HB2.out _ HB3.out _ HB4.out⟩
  · have N1 := hide (fun W => DqI.new_none r (.pointer none) (by omega) (by omega) W (pstep_nil _ _))
    have N2 := hide (DqI.new_none r (.pointer (some ⟨w.heap.size, 0, none⟩)) (by omega) (by omega) (w.alloc (.cells #[.slice none 0 0, .int .i64 0, .int .i64 0, .bool false] 43)) (pstep_un (Is.made _ _ _ rfl) _))
    have g1 : ¬ r < 1 := by omega
    have g2 : ¬ 64 < r := by omega
    have d1 : decide (r < 1) = false := decide_eq_false g1
    have d2 : decide (1 ≤ r) = true := decide_eq_true (by omega)
    have d3 : decide (r ≤ 64) = true := decide_eq_true (by omega)
    have d4 : decide (64 < r) = false := decide_eq_false g2
    clear h
    go_enter Try.func5, Try.ntmps5
    go_wp2_with (first
            | (go_at_call 9; (with_reducible refine (N1.out _).mono ?_); go_must (rintro e w1 ⟨rfl, rfl⟩))
            | (go_at_call 9; (with_reducible refine (Hid.out N2).mono ?_); go_must (rintro e w1 ⟨rfl, rfl⟩))
            | (go_at_call 21; (with_reducible refine (none_nil _ _).mono ?_); go_must (rintro e w2 ⟨rfl, hb2⟩; have HB2 := hide hb2; clear hb2))
            | (go_at_call 21; (with_reducible refine (NU.out _).mono ?_); go_must (rintro e w3 ⟨rfl, hb3⟩; have HB3 := hide hb3; clear hb3))
            | (go_at_call 7; go_must ((with_reducible refine (works10_any _).mono ?_); rintro e w4 ⟨rfl, hb4⟩; have HB4 := hide hb4; clear hb4)))
    go_ret
    exact ⟨rfl, HF.out _ HB2.out _ HB3.out _ HB4.out⟩
end Go.Proofs.Ytkjhamcmhijhgaa.Walk
