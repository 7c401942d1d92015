/- PoolCancel, walked. -/
import Derived.Test.YtkjhamcmhijhgaaAll9
import Derived.Test.YtkjhamcmhijhgaaAll14
namespace Go.Proofs.Ytkjhamcmhijhgaa.Walk
open Go.RowKit Go.Proofs.Ytkjhamcmhijhgaa.Dig Go.Proofs.Ytkjhamcmhijhgaa.Mem Go.Proofs.Ytkjhamcmhijhgaa.Dq Go.Proofs.Ytkjhamcmhijhgaa.Thing Go.Proofs.Ytkjhamcmhijhgaa.Pick Go.Proofs.Ytkjhamcmhijhgaa.Sets Go.Proofs.Ytkjhamcmhijhgaa.Pool
set_option linter.unusedVariables false
set_option linter.unusedSimpArgs false

theorem todo_mono {α : Type} {J J' : α → Nat} (h : ∀ x, J x ≤ J' x) (ks : List (W1 α)) : todo J ks ≤ todo J' ks := by
  have h2 : ∀ l : List α, (l.map J).sum ≤ (l.map J').sum := fun l => by
    induction l with
    | nil => simp
    | cons x l ih => have := h x; simp; omega
  unfold todo
  induction ks with
  | nil => simp
  | cons κ ks ih =>
    have a := h2 κ.l
    have b := h κ.x
    simp only [List.map_cons, List.sum_cons]
    split <;> omega
structure Cancels (L : List Int) (c : Nat) (n : Nat) (s s' : PS Int) (n' : Nat) (E : Int) : Prop where
  is : runS halfL 0 L (c : Int) (n + 1) s 0 = (s', n', E)
  whole : n ≤ c → E = 0 ∧ n' = n
  part : c < n → E = 8 ∧ n' = c ∧ readyL s'.ks ≠ [] ∧ over (c : Int) n' = true ∧ 0 < leftL s'.ks
  small : leftL s'.ks ≤ n ∧ todo (fun _ => 1) s'.ks ≤ n ∧ s'.dn.length ≤ n ∧ s'.st ≤ n ∧ s'.who.length ≤ n ∧ n' ≤ n
  len : s'.ks.length = s.ks.length
theorem cancels (L : List Int) (c : Nat) {r : Nat} {l : List Int} {s : PS Int} (h : Started r l s) : ∃ s' n' E, Cancels L c (2 * jobsL l) s s' n' E := by
  have ht := h.todo
  obtain ⟨R, hR⟩ : ∃ R, R = runS halfL 0 L (c : Int) (2 * jobsL l + 1) s 0 := ⟨_, rfl⟩
  have hr := run_ran (of := halfL) (d0 := 0) (L := L) (c := (c : Int)) (J := jobs1) (f := jobs1) (g := fun _ => 1) jobs1_eq jobs1_eq (2 * jobsL l + 1) s 0 (by omega)
  rw [← hR] at hr
  obtain ⟨s', n', E⟩ := R
  have hst := hr.steps
  have hle := left_todo jobs1_pos s'.ks
  have hmo := todo_mono (J := fun _ => 1) (J' := jobs1) jobs1_pos s'.ks
  have hsum := hr.sum
  rw [h.dn, h.sum jobs1] at hsum
  have hdn : (s'.dn.map fun _ => 1).sum = s'.dn.length := by
    generalize s'.dn = d
    induction d with
    | nil => rfl
    | cons x d ih => simp only [List.map_cons, List.sum_cons, List.length_cons, ih]; omega
  have hjl : (l.map jobs1).sum = jobsL l := rfl
  have hsto := hr.st
  have hwho := hr.who
  rw [h.st] at hsto
  rw [h.who] at hwho
  simp only [List.map_nil, List.sum_nil, List.length_nil] at hsum hwho hst hsto hdn
  refine ⟨s', n', E, hR.symm, fun hc => ?_, fun hc => ?_, ⟨by omega, by omega, by omega, by omega, by omega, by omega⟩, hr.len⟩
  · rcases hr.way with ⟨q1, q2⟩ | ⟨q1, q2, q3⟩
    · exact ⟨q1, by simp only at q2; omega⟩
    · unfold over at q3
      simp only [Bool.and_eq_true, decide_eq_true_eq] at q3 q2
      omega
  · have hn : n' ≤ c := by
      apply Nat.le_of_not_lt
      intro q
      have := hr.fits c (by omega) q
      unfold over at this
      simp at this
    rcases hr.way with ⟨q1, q2⟩ | ⟨q1, q2, q3⟩
    · simp only at q2
      omega
    · have q4 := q3
      unfold over at q4
      simp only [Bool.and_eq_true, decide_eq_true_eq] at q4 q2
      exact ⟨q1, by omega, ready_ne q2, q3, by omega⟩
theorem cancel_big (w : World) (wk cn : Int) (a1 a3 : Option Addr) (n1 c1 n3 c3 : Nat) (h : 300 < n1) (hm : n1 ≤ 9223372036854775807) : Calls Try.prog 4 #[.int .u8 wk, .slice a1 n1 c1, .int .u16 cn, .slice a3 n3 c3] w fun e w' => e = .returned (.bool true) ∧ Below w.heap.size w w' := by
  have g : (300 : Int) < n1 := by omega
  go_enter Try.func4, Try.ntmps4
  go_wp2_with (go_at_call 7; go_must ((with_reducible refine (works10_any _).mono ?_); rintro e w9 ⟨rfl, hb⟩))
  go_ret
  exact ⟨rfl, hb⟩
theorem cancel_many (w : World) (wk cn : Int) (a1 a3 : Option Addr) (n1 c1 n3 c3 : Nat) (h : n1 ≤ 300) (hf : Calls Try.prog 6 #[.slice a3 n3 c3] w fun e w' => e = .returned (.bool false) ∧ w' = w) : Calls Try.prog 4 #[.int .u8 wk, .slice a1 n1 c1, .int .u16 cn, .slice a3 n3 c3] w fun e w' => e = .returned (.bool true) ∧ Below w.heap.size w w' := by
  have g : ¬ (300 : Int) < n1 := by omega
  have HF := hide hf
  clear hf
  go_enter Try.func4, Try.ntmps4
  go_wp2_with (first
    | (go_at_call 6; go_must ((with_reducible refine (Hid.out HF).mono ?_); rintro e w9 ⟨rfl, rfl⟩))
    | (go_at_call 7; go_must ((with_reducible refine (works10_any _).mono ?_); rintro e w9 ⟨rfl, hb⟩)))
  go_ret
  exact ⟨rfl, hb⟩
set_option maxHeartbeats 8000000 in
set_option maxRecDepth 20000 in
theorem walk_poolCancel (w : World) (wk : Int) (hwk : (Lit.int .u8 wk).wf = true) (a1 : Option Addr) (n1 c1 : Nat) (z1 : List Int) (h1 : Frame.IsRow .i64 w a1 n1 c1 z1) (cn : Int) (hcn : (Lit.int .u16 cn).wf = true) (a3 : Option Addr) (n3 c3 : Nat) (z3 : List Int) (h3 : Frame.IsRow .i64 w a3 n3 c3 z3) :
    Calls Try.prog 4 #[.int .u8 wk, .slice a1 n1 c1, .int .u16 cn, .slice a3 n3 c3] w fun e w' => e = .returned (.bool true) ∧ Below w.heap.size w w' := by
  have m1 := h1.cap
  have m3 := h3.cap
  by_cases hb : 300 < n1
  · exact cancel_big w wk cn a1 a3 n1 c1 n3 c3 hb (by omega)
  by_cases hb3 : 20 < n3
  · exact cancel_many w wk cn a1 a3 n1 c1 n3 c3 (by omega) (few_big a3 n3 c3 hb3 (by omega) w)
  obtain ⟨L, e1, r1⟩ := h1.rowi (by omega)
  obtain ⟨js, e3, r3⟩ := h3.rowi (by omega)
  cases hfew : fewB js with
  | false => exact cancel_many w wk cn a1 a3 n1 c1 n3 c3 (by omega) (by have := few_any r3 e3 (by omega); rw [hfew] at this; exact this)
  | true =>
    obtain ⟨hj20, hsm⟩ := fewB_iff.1 hfew
    have hbw := bounds_u8 hwk
    obtain ⟨cc, rfl⟩ : ∃ cc : Nat, cn = cc := ⟨cn.toNat, by have := bounds_u16 hcn; omega⟩
    have hbc := bounds_u16 hcn
    obtain ⟨wn, rfl⟩ : ∃ wn : Nat, wk = wn := ⟨wk.toNat, by omega⟩
    obtain ⟨q, hq⟩ : ∃ q, q = wn % 64 := ⟨_, rfl⟩
    have hq64 : q < 64 := by rw [hq]; exact Nat.mod_lt _ (by omega)
    have hmod : (wn : Int).tmod 64 = (q : Int) := by rw [hq]; exact DqI.tmod_nat wn 64
    have hST := started (q + 1) (by omega) js hsm
    obtain ⟨s', n', E, hC⟩ := cancels L cc hST
    have hJL := jobsL_le hsm
    obtain ⟨N, hN⟩ : ∃ N, N = jobsL js := ⟨_, rfl⟩
    have hN780 : N ≤ 780 := by omega
    have HC := hide hC
    have HST := hide hST
    have R1 := hide r1
    have R3 := hide r3
    have E3 := hide e3
    have HSM := hide hsm
    have FEW := hide (few_any r3 e3 (by omega))
    rw [hfew] at FEW
    have N0 := hide (newE (w := w) (wx := w) (hide (Kn.start w)) r1 e1 (by omega) (cc : Int))
    have JB : Hid (∀ wy, Below w.heap.size w wy → Calls Try.prog 14 #[.slice a3 n3 c3] wy fun e w' => e = .returned (.int .i64 (N : Int)) ∧ w' = wy) := hide (fun wy hb => by rw [hN]; exact jobs_any (r3.keep hb) e3 (by omega) hsm)
    have AD : Hid (∀ wy p sb, Hid (DqI.PL w p sb L cc 0 (newS 0 (q + 1)) [] wy) → Calls Try.prog 10 #[.pointer (some ⟨p, 0, none⟩), .slice a3 n3 c3] wy fun e w' => e = .returned (.tuple #[]) ∧ Hid (DqI.PL w p sb L cc 0 (addL (newS 0 (q + 1)) js) [] w')) := hide (fun wy p sb z => DqI.addP z (by simp [newS]) e3 (by omega) (by rw [(new_sum (0 : Int) (fun _ => 1) (q + 1)).2.2]; omega) (fun W hK => rowE_of (r3.keep hK.below)))
    have RN : Hid (∀ wy p sb, Hid (DqI.PL w p sb L cc 0 (addL (newS 0 (q + 1)) js) [] wy) → Calls Try.prog 11 #[.pointer (some ⟨p, 0, none⟩), .func (.func 20) #[] #[]] wy fun e w' => e = .returned (.int .i64 E) ∧ Hid (DqI.PL w p sb L cc n' s' [DqI.noT] w')) := hide (fun wy p sb z => by
      refine (DqI.runP (hide z.out.nothing) (D := fun _ t => t = DqI.noT) rfl hST.all jobs1_eq half_small (does_halves p) (mm := 2 * jobsL js + 1) (by rw [hST.todo]; omega) (by rw [hST.dn, hST.st, hST.who]; simp; omega) hC.is).mono ?_
      rintro e w' ⟨rfl, t', h1, h2⟩
      obtain rfl := h2.out
      exact ⟨rfl, h1⟩)
    have g1 : ¬ (300 : Int) < n1 := by omega
    have g3 : (1 : Int) + (q : Int) = ((q + 1 : Nat) : Int) := by omega
    have g4 : IntKind.i64.wrap (cc : Int) = cc := IntWalk.i64_in _ (by omega)
    have g5 : IntKind.i64.wrap (wn : Int) = wn := IntWalk.i64_in _ (by omega)
    have G3 := hide g3
    have hq1 : q + 1 ≤ 64 := by omega
    clear h1 h3 m1 m3 hb hb3 e1 r1 r3 e3 hj20 hsm hfew hwk hcn hST hC hJL hq g3
    by_cases hcase : 2 * N ≤ cc
    · obtain ⟨k1, k2⟩ := HC.out.whole (by rw [← hN]; exact hcase)
      subst k1
      rw [← hN] at k2
      subst k2
      have d1 : 2 * (N : Int) ≤ (cc : Int) := by omega
      clear hcase hN
      go_enter Try.func4, Try.ntmps4
      go_wp2_with (first
        | (go_at_call 6; go_must ((with_reducible refine (Hid.out FEW).mono ?_); rintro e w0 ⟨rfl, rfl⟩))
        | (go_at_call 8; go_must ((with_reducible refine (Hid.out N0).mono ?_); rintro e w1 ⟨sb, rfl, H1⟩; have P1 := hide (DqI.newL H1 (by decide) (q + 1) (by omega) hq1 (z := 1 + (q : Int)) G3.out)))
        | (go_at_call 9; go_must ((with_reducible refine (Hid.out P1).mono ?_); rintro e w2 ⟨p, rfl, H2⟩))
        | (go_at_call 10; go_must ((with_reducible refine (AD.out _ _ _ H2).mono ?_); rintro e w3 ⟨rfl, H3⟩))
        | (go_at_call 11; go_must ((with_reducible refine (RN.out _ _ _ H3).mono ?_); rintro e w4 ⟨rfl, H4⟩))
        | (go_at_call 14; go_must ((with_reducible refine (JB.out _ H4.out.below).mono ?_); rintro e w5 ⟨rfl, rfl⟩))
        | (go_at_call 17; go_must ((with_reducible refine (DqI.stepsP H4 (z := 2 * (N : Int)) (by omega)).mono ?_); rintro e w6 ⟨rfl, rfl⟩))
        | (go_at_call 7; go_must ((with_reducible refine (works10_any _).mono ?_); rintro e w7 ⟨rfl, hb7⟩)))
      go_ret
      exact ⟨rfl, H4.out.below.trans (hb7.mono H4.out.below.size)⟩
    · obtain ⟨k1, k2, k3, k4, k5⟩ := HC.out.part (by rw [← hN]; omega)
      have ks := HC.out.small
      subst k1
      subst k2
      obtain ⟨lf, hlf⟩ : ∃ lf : Int, lf = (leftL s'.ks : Int) := ⟨_, rfl⟩
      have g6 : (0 : Int) < lf := by omega
      have hwl : waitL s'.ks ≤ 1000000 := by have : waitL s'.ks ≤ leftL s'.ks := Nat.le_add_right _ _; omega
      have RN2 : Hid (∀ wy p sb, Hid (DqI.PL w p sb L n' n' s' [DqI.noT] wy) → Calls Try.prog 11 #[.pointer (some ⟨p, 0, none⟩), .nilFunc] wy fun e w' => e = .returned (.int .i64 8) ∧ Hid (DqI.PL w p sb L n' n' s' [DqI.noT] w')) := hide (fun wy p sb z => by
        refine (DqI.runP z (J := fun _ => 1) (of := fun _ => []) (G := fun _ => True) (D := fun _ t => t = DqI.noT) rfl (fun _ _ => ⟨fun _ _ => trivial, fun _ => trivial⟩) (fun _ => rfl) (fun _ _ _ _ => trivial) (DqI.does_nil p _) (mm := todo (fun _ => 1) s'.ks + 1) (by omega) (by omega) (run_over (fun _ => []) 0 L _ k3 k4)).mono ?_
        rintro e w' ⟨rfl, t', h1, h2⟩
        obtain rfl := h2.out
        exact ⟨rfl, h1⟩)
      have d1 : ¬ 2 * (N : Int) ≤ (n' : Int) := by omega
      have HLF := hide (And.intro hlf hwl)
      clear hcase hN hlf hwl k3 k4 k5 ks HC
      go_enter Try.func4, Try.ntmps4
      go_wp2_with (first
        | (go_at_call 6; go_must ((with_reducible refine (Hid.out FEW).mono ?_); rintro e w0 ⟨rfl, rfl⟩))
        | (go_at_call 8; go_must ((with_reducible refine (Hid.out N0).mono ?_); rintro e w1 ⟨sb, rfl, H1⟩; have P1 := hide (DqI.newL H1 (by decide) (q + 1) (by omega) hq1 (z := 1 + (q : Int)) G3.out)))
        | (go_at_call 9; go_must ((with_reducible refine (Hid.out P1).mono ?_); rintro e w2 ⟨p, rfl, H2⟩))
        | (go_at_call 10; go_must ((with_reducible refine (AD.out _ _ _ H2).mono ?_); rintro e w3 ⟨rfl, H3⟩))
        | (go_at_call 11; go_must (first | ((with_reducible refine (RN2.out _ _ _ H4).mono ?_); rintro e w8 ⟨rfl, H8⟩) | ((with_reducible refine (RN.out _ _ _ H3).mono ?_); rintro e w4 ⟨rfl, H4⟩)))
        | (go_at_call 14; go_must ((with_reducible refine (JB.out _ H4.out.below).mono ?_); rintro e w5 ⟨rfl, rfl⟩))
        | (go_at_call 17; go_must (first | ((with_reducible refine (DqI.stepsP H8 (z := (n' : Int)) rfl).mono ?_); rintro e w6 ⟨rfl, rfl⟩) | ((with_reducible refine (DqI.stepsP H4 (z := (n' : Int)) rfl).mono ?_); rintro e w6 ⟨rfl, rfl⟩)))
        | (go_at_call 16; go_must ((with_reducible refine (DqI.leftP H4 (Hid.out HLF).2 (Hid.out HLF).1).mono ?_); rintro e w9 ⟨rfl, rfl⟩))
        | (go_at_call 7; go_must ((with_reducible refine (works10_any _).mono ?_); rintro e w7 ⟨rfl, hb7⟩)))
      go_ret
      exact ⟨rfl, H8.out.below.trans (hb7.mono H8.out.below.size)⟩
end Go.Proofs.Ytkjhamcmhijhgaa.Walk
