/- SortedCompares, walked. -/
import Derived.Test.YtghdafgpdhbohaaSetWorks
import Derived.Test.YtghdafgpdhbohaaFrame
namespace Go.Proofs.Ytghdafgpdhbohaa.Walk
open Go.RowKit Go.Proofs.Ytghdafgpdhbohaa.Dig Go.Proofs.Ytghdafgpdhbohaa.Mem Go.Proofs.Ytghdafgpdhbohaa.Sets
set_option linter.unusedVariables false
set_option linter.unusedSimpArgs false

theorem row_of {w : World} {a : Option Addr} {len cap : Nat} {zs : List Int} (h : Frame.IsRow .i64 w a len cap zs) (hl : len ≤ 1000000) : ∃ l, len = l.length ∧ RowV w a cap l := by
  have hc := h.cap.1
  obtain ⟨l, rfl, hr, hw, hn⟩ := h.list (by omega)
  exact ⟨l, rfl, hc, hr, fun e => (hn e).2⟩
theorem compares_no (w : World) (a0 a1 a2 : Option Addr) (n0 n1 n2 c0 c1 c2 : Nat) (h : 300 < n0 ∨ 300 < n1 ∨ 300 < n2) (m0 : n0 ≤ 9223372036854775807) (m1 : n1 ≤ 9223372036854775807) (m2 : n2 ≤ 9223372036854775807) : Calls Try.prog 6 #[.slice a0 n0 c0, .slice a1 n1 c1, .slice a2 n2 c2] w fun e w' => e = .returned (.bool true) ∧ Below w.heap.size w w' := by
  by_cases h0 : 300 < n0
  · have g0 : (300 : Int) < n0 := by omega
    clear h
    go_enter Try.func6, Try.ntmps6
    go_wp2_with (first | (go_at_call 8; go_must ((with_reducible refine (works5_any _).mono ?_); rintro e w1 ⟨rfl, hb1⟩)))
    go_ret
    exact ⟨rfl, hb1⟩
  by_cases h1 : 300 < n1
  · have g0 : ¬ (300 : Int) < n0 := by omega
    have g1 : (300 : Int) < n1 := by omega
    clear h
    go_enter Try.func6, Try.ntmps6
    go_wp2_with (first | (go_at_call 8; go_must ((with_reducible refine (works5_any _).mono ?_); rintro e w1 ⟨rfl, hb1⟩)))
    go_ret
    exact ⟨rfl, hb1⟩
  · have g0 : ¬ (300 : Int) < n0 := by omega
    have g1 : ¬ (300 : Int) < n1 := by omega
    have g2 : (300 : Int) < n2 := by omega
    clear h
    go_enter Try.func6, Try.ntmps6
    go_wp2_with (first | (go_at_call 8; go_must ((with_reducible refine (works5_any _).mono ?_); rintro e w1 ⟨rfl, hb1⟩)))
    go_ret
    exact ⟨rfl, hb1⟩
set_option maxHeartbeats 2000000 in
theorem walk_sortedCompares (w : World) (a0 : Option Addr) (n0 c0 : Nat) (z0 : List Int) (h0 : Frame.IsRow .i64 w a0 n0 c0 z0) (a1 : Option Addr) (n1 c1 : Nat) (z1 : List Int) (h1 : Frame.IsRow .i64 w a1 n1 c1 z1) (a2 : Option Addr) (n2 c2 : Nat) (z2 : List Int) (h2 : Frame.IsRow .i64 w a2 n2 c2 z2) :
    Calls Try.prog 6 #[.slice a0 n0 c0, .slice a1 n1 c1, .slice a2 n2 c2] w fun e w' => e = .returned (.bool true) ∧ Below w.heap.size w w' := by
  have m0 := h0.cap
  have m1 := h1.cap
  have m2 := h2.cap
  by_cases hb : 300 < n0 ∨ 300 < n1 ∨ 300 < n2
  · exact compares_no w a0 a1 a2 n0 n1 n2 c0 c1 c2 hb (by omega) (by omega) (by omega)
  obtain ⟨l0, e0, r0⟩ := row_of h0 (by omega)
  obtain ⟨l1, e1, r1⟩ := row_of h1 (by omega)
  obtain ⟨l2, e2, r2⟩ := row_of h2 (by omega)
  have g0 : ¬ (300 : Int) < n0 := by omega
  have g1 : ¬ (300 : Int) < n1 := by omega
  have g2 : ¬ (300 : Int) < n2 := by omega
  have t1 := cmpL_three (lt := ltI) l0 l1
  have tz : cmpL ltI l0 l1 = 0 → cmpL ltI l1 l2 = cmpL ltI l0 l2 := fun e => by rw [cmpL_zero totI e]
  have tt := cmpL_tr (a := l0) (b := l1) (c := l2) totI
  have ts := cmpL_swap totI l0 l1
  obtain ⟨x, hx⟩ : ∃ x, x = cmpL ltI l0 l1 := ⟨_, rfl⟩
  obtain ⟨y, hy⟩ : ∃ y, y = cmpL ltI l1 l2 := ⟨_, rfl⟩
  obtain ⟨z, hz⟩ : ∃ z, z = cmpL ltI l0 l2 := ⟨_, rfl⟩
  rw [← hx] at t1 tz tt ts
  rw [← hy] at tz tt
  rw [← hz] at tz tt
  have C1 : Hid (Calls Try.prog 28 #[.slice a0 n0 c0, .slice a1 n1 c1] w fun e w' => e = .returned (.int .i64 x) ∧ w' = w) := by rw [e0, e1, hx]; exact cmp_any _ _ _ _ _ _ _ r0 r1
  have C2 : Hid (Calls Try.prog 28 #[.slice a1 n1 c1, .slice a2 n2 c2] w fun e w' => e = .returned (.int .i64 y) ∧ w' = w) := by rw [e1, e2, hy]; exact cmp_any _ _ _ _ _ _ _ r1 r2
  have C3 : Hid (Calls Try.prog 28 #[.slice a0 n0 c0, .slice a2 n2 c2] w fun e w' => e = .returned (.int .i64 z) ∧ w' = w) := by rw [e0, e2, hz]; exact cmp_any _ _ _ _ _ _ _ r0 r2
  have C4 : Hid (Calls Try.prog 29 #[.slice a0 n0 c0, .slice a1 n1 c1] w fun e w' => e = .returned (.int .i64 x) ∧ Hid (Below w.heap.size w w') ∧ Hid (Calls Try.prog 30 #[.slice a0 n0 c0, .slice a1 n1 c1] w' fun e w'' => e = .returned (.bool (x == 0)) ∧ w'' = w') ∧ Hid (Calls Try.prog 28 #[.slice a1 n1 c1, .slice a0 n0 c0] w' fun e w'' => e = .returned (.int .i64 (0 - x)) ∧ w'' = w')) := by
    rw [e0, e1, hx]
    refine (rcmp_any _ _ _ _ _ _ _ r0 r1).mono ?_
    rintro e w' ⟨rfl, hb⟩
    refine ⟨rfl, hb, psame_any _ _ _ _ _ _ _ (r0.keep hb) (r1.keep hb), ?_⟩
    have := cmp_any _ _ _ _ _ _ _ (r1.keep hb) (r0.keep hb)
    rw [ts, hx] at this
    exact this
  clear h0 h1 h2 m0 m1 m2 hb e0 e1 e2 r0 r1 r2 hx hy hz ts
  rcases t1 with rfl | rfl | rfl
  · by_cases hy : 0 < y
    · clear tz tt
      go_enter Try.func6, Try.ntmps6
      go_wp2_with (first | (go_at_call 28; (with_reducible refine (Hid.out C1).mono ?_); rintro e w5 ⟨rfl, hw5⟩; replace hw5 := hw5.symm; subst hw5) | (go_at_call 28; (with_reducible refine (Hid.out C2).mono ?_); rintro e w5 ⟨rfl, hw5⟩; replace hw5 := hw5.symm; subst hw5) | (go_at_call 28; (with_reducible refine (Hid.out C3).mono ?_); rintro e w5 ⟨rfl, hw5⟩; replace hw5 := hw5.symm; subst hw5) | (go_at_call 29; go_must ((with_reducible refine (Hid.out C4).mono ?_); rintro e w6 ⟨rfl, HB6, C5, C6⟩)) | (go_at_call 30; go_must ((with_reducible refine (Hid.out C5).mono ?_); rintro e w7 ⟨rfl, hw7⟩; replace hw7 := hw7.symm; subst hw7)) | (go_at_call 28; (with_reducible refine (Hid.out C6).mono ?_); rintro e w5 ⟨rfl, hw5⟩; replace hw5 := hw5.symm; subst hw5) | (go_at_call 8; go_must ((with_reducible refine (works5_any _).mono ?_); rintro e w8 ⟨rfl, hb8⟩; have HB8 := hide hb8; clear hb8)))
      go_ret
      exact ⟨rfl, HB6.out.trans (HB8.out.mono HB6.out.size)⟩
    · have hz : z ≤ 0 := tt (by omega) (by omega)
      clear tz tt
      go_enter Try.func6, Try.ntmps6
      go_wp2_with (first | (go_at_call 28; (with_reducible refine (Hid.out C1).mono ?_); rintro e w5 ⟨rfl, hw5⟩; replace hw5 := hw5.symm; subst hw5) | (go_at_call 28; (with_reducible refine (Hid.out C2).mono ?_); rintro e w5 ⟨rfl, hw5⟩; replace hw5 := hw5.symm; subst hw5) | (go_at_call 28; (with_reducible refine (Hid.out C3).mono ?_); rintro e w5 ⟨rfl, hw5⟩; replace hw5 := hw5.symm; subst hw5) | (go_at_call 29; go_must ((with_reducible refine (Hid.out C4).mono ?_); rintro e w6 ⟨rfl, HB6, C5, C6⟩)) | (go_at_call 30; go_must ((with_reducible refine (Hid.out C5).mono ?_); rintro e w7 ⟨rfl, hw7⟩; replace hw7 := hw7.symm; subst hw7)) | (go_at_call 28; (with_reducible refine (Hid.out C6).mono ?_); rintro e w5 ⟨rfl, hw5⟩; replace hw5 := hw5.symm; subst hw5) | (go_at_call 8; go_must ((with_reducible refine (works5_any _).mono ?_); rintro e w8 ⟨rfl, hb8⟩; have HB8 := hide hb8; clear hb8)))
      go_ret
      exact ⟨rfl, HB6.out.trans (HB8.out.mono HB6.out.size)⟩
  · obtain rfl := tz rfl
    by_cases hy : 0 < y
    · clear tz tt
      go_enter Try.func6, Try.ntmps6
      go_wp2_with (first | (go_at_call 28; (with_reducible refine (Hid.out C1).mono ?_); rintro e w5 ⟨rfl, hw5⟩; replace hw5 := hw5.symm; subst hw5) | (go_at_call 28; (with_reducible refine (Hid.out C2).mono ?_); rintro e w5 ⟨rfl, hw5⟩; replace hw5 := hw5.symm; subst hw5) | (go_at_call 28; (with_reducible refine (Hid.out C3).mono ?_); rintro e w5 ⟨rfl, hw5⟩; replace hw5 := hw5.symm; subst hw5) | (go_at_call 29; go_must ((with_reducible refine (Hid.out C4).mono ?_); rintro e w6 ⟨rfl, HB6, C5, C6⟩)) | (go_at_call 30; go_must ((with_reducible refine (Hid.out C5).mono ?_); rintro e w7 ⟨rfl, hw7⟩; replace hw7 := hw7.symm; subst hw7)) | (go_at_call 28; (with_reducible refine (Hid.out C6).mono ?_); rintro e w5 ⟨rfl, hw5⟩; replace hw5 := hw5.symm; subst hw5) | (go_at_call 8; go_must ((with_reducible refine (works5_any _).mono ?_); rintro e w8 ⟨rfl, hb8⟩; have HB8 := hide hb8; clear hb8)))
      go_ret
      exact ⟨rfl, HB6.out.trans (HB8.out.mono HB6.out.size)⟩
    · have hz : y ≤ 0 := by omega
      clear tz tt
      go_enter Try.func6, Try.ntmps6
      go_wp2_with (first | (go_at_call 28; (with_reducible refine (Hid.out C1).mono ?_); rintro e w5 ⟨rfl, hw5⟩; replace hw5 := hw5.symm; subst hw5) | (go_at_call 28; (with_reducible refine (Hid.out C2).mono ?_); rintro e w5 ⟨rfl, hw5⟩; replace hw5 := hw5.symm; subst hw5) | (go_at_call 28; (with_reducible refine (Hid.out C3).mono ?_); rintro e w5 ⟨rfl, hw5⟩; replace hw5 := hw5.symm; subst hw5) | (go_at_call 29; go_must ((with_reducible refine (Hid.out C4).mono ?_); rintro e w6 ⟨rfl, HB6, C5, C6⟩)) | (go_at_call 30; go_must ((with_reducible refine (Hid.out C5).mono ?_); rintro e w7 ⟨rfl, hw7⟩; replace hw7 := hw7.symm; subst hw7)) | (go_at_call 28; (with_reducible refine (Hid.out C6).mono ?_); rintro e w5 ⟨rfl, hw5⟩; replace hw5 := hw5.symm; subst hw5) | (go_at_call 8; go_must ((with_reducible refine (works5_any _).mono ?_); rintro e w8 ⟨rfl, hb8⟩; have HB8 := hide hb8; clear hb8)))
      go_ret
      exact ⟨rfl, HB6.out.trans (HB8.out.mono HB6.out.size)⟩
  · clear tz tt
    go_enter Try.func6, Try.ntmps6
    go_wp2_with (first | (go_at_call 28; (with_reducible refine (Hid.out C1).mono ?_); rintro e w5 ⟨rfl, hw5⟩; replace hw5 := hw5.symm; subst hw5) | (go_at_call 28; (with_reducible refine (Hid.out C2).mono ?_); rintro e w5 ⟨rfl, hw5⟩; replace hw5 := hw5.symm; subst hw5) | (go_at_call 28; (with_reducible refine (Hid.out C3).mono ?_); rintro e w5 ⟨rfl, hw5⟩; replace hw5 := hw5.symm; subst hw5) | (go_at_call 29; go_must ((with_reducible refine (Hid.out C4).mono ?_); rintro e w6 ⟨rfl, HB6, C5, C6⟩)) | (go_at_call 30; go_must ((with_reducible refine (Hid.out C5).mono ?_); rintro e w7 ⟨rfl, hw7⟩; replace hw7 := hw7.symm; subst hw7)) | (go_at_call 28; (with_reducible refine (Hid.out C6).mono ?_); rintro e w5 ⟨rfl, hw5⟩; replace hw5 := hw5.symm; subst hw5) | (go_at_call 8; go_must ((with_reducible refine (works5_any _).mono ?_); rintro e w8 ⟨rfl, hb8⟩; have HB8 := hide hb8; clear hb8)))
    go_ret
    exact ⟨rfl, HB6.out.trans (HB8.out.mono HB6.out.size)⟩
end Go.Proofs.Ytghdafgpdhbohaa.Walk
