/- MergeCancel, walked. -/
import Derived.Test.YtkjdjmcecjaolaaAll12
namespace Go.Proofs.Ytkjdjmcecjaolaa.Walk
open Go.RowKit Go.Proofs.Ytkjdjmcecjaolaa.Dig Go.Proofs.Ytkjdjmcecjaolaa.Mem Go.Proofs.Ytkjdjmcecjaolaa.Dq Go.Proofs.Ytkjdjmcecjaolaa.Thing Go.Proofs.Ytkjdjmcecjaolaa.Pick Go.Proofs.Ytkjdjmcecjaolaa.Mrg
set_option linter.unusedVariables false
set_option linter.unusedSimpArgs false

/-- A run that is not cancelled in time. -/
theorem run_late {L : List Int} {c : Int} {room : Nat} {rows : List (List Int)} {mm : Nat} (hr : 1 ≤ room) (hc : ((3 * cnt rows + rows.length + 1 : Nat) : Int) ≤ c) (hmm : 3 * cnt rows + rows.length + 1 ≤ mm) : ∃ s' n', runM L c room mm (begM rows) 0 = (s', n', 0) ∧ s'.st = 3 * cnt rows + rows.length + 1 ∧ s'.out = mixL rows := by
  have hto : todo (begM rows) ≤ mm := by have := (beg_ok room rows).st; omega
  have R := run_ran L c hr (d := 0) mm (begM rows) 0 (beg_ok room rows) hto rfl (fun h => by omega)
  obtain ⟨⟨s', n', E⟩, hR⟩ : ∃ R, R = runM L c room mm (begM rows) 0 := ⟨_, rfl⟩
  rw [← hR] at R
  rcases R.e with ⟨e1, e2⟩ | ⟨_, e2, e3⟩
  · obtain ⟨a, _, _, d⟩ := done_facts R.ok e2
    dsimp only at e1
    subst e1
    exact ⟨s', n', hR.symm, a, d⟩
  · have h1 := todo_pos e2
    have h2 := R.ok.st
    have h3 := R.st
    unfold over at e3
    rw [Bool.and_eq_true, decide_eq_true_eq, decide_eq_true_eq] at e3
    omega
/-- A run that is cancelled. -/
theorem run_cut {L : List Int} {c : Int} {room : Nat} {rows : List (List Int)} {mm : Nat} (hr : 1 ≤ room) (h0 : 0 ≤ c) (hc : c < ((3 * cnt rows + rows.length + 1 : Nat) : Int)) (hmm : 3 * cnt rows + rows.length + 1 ≤ mm) : ∃ s' n', runM L c room mm (begM rows) 0 = (s', n', 8) ∧ (s'.st : Int) = c ∧ (n' : Int) = c ∧ s'.ec ≤ rows.length := by
  have hto : todo (begM rows) ≤ mm := by have := (beg_ok room rows).st; omega
  have R := run_ran L c hr (d := 0) mm (begM rows) 0 (beg_ok room rows) hto rfl (fun h => by omega)
  obtain ⟨⟨s', n', E⟩, hR⟩ : ∃ R, R = runM L c room mm (begM rows) 0 := ⟨_, rfl⟩
  rw [← hR] at R
  have h3 := R.st
  have h4 := R.c h0
  rcases R.e with ⟨e1, e2⟩ | ⟨e1, e2, e3⟩
  · obtain ⟨a, _, _, d⟩ := done_facts R.ok e2
    dsimp only at a h3 h4
    omega
  · have h5 := R.ok.ec
    dsimp only at e1 e2 h3 h4 h5
    subst e1
    unfold over at e3
    rw [Bool.and_eq_true, decide_eq_true_eq, decide_eq_true_eq] at e3
    dsimp only at e3
    rw [e2] at h5
    simp only [Bool.false_eq_true, ↓reduceIte] at h5
    exact ⟨s', n', hR.symm, by omega, by omega, by omega⟩
set_option maxHeartbeats 4000000 in
set_option maxRecDepth 20000 in
theorem walk_mergeCancel (w : World) (a : Option Addr) (n p : Nat) (ls : List (List Int)) (hls : ListsAt (fun b => b < w.heap.size) w (.slice a n p) ls) (a2 : Option Addr) (m p2 : Nat) (zs : List Int) (ha : Frame.IsRow .i64 w a2 m p2 zs) (k : Int) (hk : (Lit.int .u16 k).wf = true) (c : Int) (hc : (Lit.int .u8 c).wf = true) :
    Calls Try.prog 6 #[.slice a n p, .slice a2 m p2, .int .u16 k, .int .u8 c] w fun e w' => e = .returned (.bool true) ∧ Below w.heap.size w w' := by
  have HF := hide (few_any hls)
  cases hf : fewL ls with
  | false =>
    rw [hf] at HF
    clear hls ha hf hc hk
    go_enter Try.func6, Try.ntmps6
    go_wp2_with (first
      | (go_at_call 8; go_must ((with_reducible refine (Hid.out HF).mono ?_); rintro e w1 ⟨rfl, rfl⟩))
      | (go_at_call 9; go_must ((with_reducible refine (works_any _).mono ?_); rintro e w2 ⟨rfl, hb2⟩)))
    go_ret
    exact ⟨rfl, hb2⟩
  | true =>
    rw [hf] at HF
    by_cases h1 : 300 < m
    · have g1 : (300 : Int) < m := by omega
      clear hls ha hf hc hk h1
      go_enter Try.func6, Try.ntmps6
      go_wp2_with (first
        | (go_at_call 8; go_must ((with_reducible refine (Hid.out HF).mono ?_); rintro e w1 ⟨rfl, rfl⟩))
        | (go_at_call 9; go_must ((with_reducible refine (works_any _).mono ?_); rintro e w2 ⟨rfl, hb2⟩)))
      go_ret
      exact ⟨rfl, hb2⟩
    · have g1 : ¬ (300 : Int) < m := by omega
      obtain ⟨L, hL, hr⟩ := ha.rowi (by omega)
      obtain ⟨q1, q2, q3, q4, q5⟩ := few_rows hls hf
      obtain ⟨c0, c1⟩ := bounds_u8 hc
      obtain ⟨k0, k1⟩ := bounds_u16 hk
      obtain ⟨r, hr1⟩ : ∃ r : Nat, (1 + c % 64) = (r : Int) := ⟨(1 + c % 64).toNat, by omega⟩
      have N0 := hide (newE (hide (Kn.start w)) hr hL (by omega) k)
      obtain ⟨K, hK⟩ : ∃ K, K = cnt ls := ⟨_, rfl⟩
      have HCN : Hid (∀ W, Below w.heap.size w W → _) := hide (fun W hW => count_any (q2.keep hW) q1 (by omega) (by omega))
      rw [← hK] at HCN
      have HRR : Hid (∀ W, Below w.heap.size w W → _) := hide (fun W hW => rrows_any (q2.keep hW) q1 (by omega) (by omega))
      have HW := hide (fun W => works_any W)
      have hn20 : n ≤ 20 := q3
      have hK8 : K ≤ 800 := by omega
      by_cases hcut : 3 * (K : Int) + (n : Int) + 1 ≤ k
      · obtain ⟨s', n', hrun, hst, hout⟩ := run_late (L := L) (c := k) (room := r) (rows := ls) (mm := 3 * cnt ls + ls.length + 1) (by omega) (by omega) (Nat.le_refl _)
        have e1 : ((s'.st : Nat) : Int) = 3 * (K : Int) + (n : Int) + 1 := by omega
        have e4 : outE 0 s' = mixL ls := by unfold outE; rw [if_pos rfl, hout]
        have HRUN : Hid (∀ b W, Hid (SE w b L k 0 [] W) → _) := hide (fun b W hW => run_any (nr := n) hW q2 q1 (by omega) (fun l hl => by have := q4 l hl; omega) (by omega) (by omega) (by omega) (by omega) (Nat.le_refl _) hrun (rz := (r : Int)) rfl)
        rw [e1, e4] at HRUN
        obtain ⟨M, hM⟩ : ∃ M, M = mixL ls := ⟨_, rfl⟩
        rw [← hM] at HRUN HRR
        obtain ⟨zse, hzse⟩ : ∃ zse : Int, zse = (s'.se : Int) := ⟨_, rfl⟩
        obtain ⟨zec, hzec⟩ : ∃ zec : Int, zec = (s'.ec : Int) := ⟨_, rfl⟩
        rw [← hzse, ← hzec] at HRUN
        clear hls ha hf hc h1 hk hr hL q1 q2 q3 q4 q5 hrun hst hout e1 e4 hK hM hzse hzec
        go_enter Try.func6, Try.ntmps6
        go_upto_region 5 with (first
          | (go_at_call 8; go_must ((with_reducible refine (Hid.out HF).mono ?_); rintro e w1 ⟨rfl, hq⟩; replace hq := hq.symm; subst hq; clear HF))
          | (go_at_call 10; go_must ((with_reducible refine (Hid.out N0).mono ?_); rintro e w2 ⟨b, rfl, H2⟩; have R2 := hide (HRUN.out b w2 H2); clear N0))
          | (go_at_call 11; go_must ((with_reducible refine (Hid.out R2).mono ?_); rintro e w3 ⟨oa, om, oc, rfl, HO, HS⟩; clear R2)))
        have HOM := hide HO.out.1
        have K4 : Hid (LK w w3.heap.size (3 * (K : Int) + (n : Int) + 1) zse zec oa oc M (w3.alloc (.cells #[.int .i64 (3 * (K : Int) + (n : Int) + 1), .int .i64 zse, .int .i64 zec] 29))) := hide ⟨HS.out.below.alloc HS.out.below.size _, Is.made _ _ _ rfl, HO.out.2.1.keep ((Below.refl _ _).alloc (Nat.le_refl _) _)⟩
        generalize w3.heap.size = B at K4 ⊢
        generalize (w3.alloc (.cells #[.int .i64 (3 * (K : Int) + (n : Int) + 1), .int .i64 zse, .int .i64 zec] 29)) = W5 at K4 ⊢
        have HCN5 := hide (HCN.out W5 K4.out.below)
        have HRR5 := hide (HRR.out W5 K4.out.below)
        obtain ⟨c0', c1', c2'⟩ := K4.out.cells
        clear HO HS HRUN HCN HRR
        go_wp2_with (first
          | (go_at_call 19; go_must ((with_reducible refine (Hid.out HCN5).mono ?_); rintro e w6 ⟨rfl, rfl⟩))
          | (go_at_call 20; go_must ((with_reducible refine (Hid.out HRR5).mono ?_); rintro e w7 ⟨ob, on, od, rfl, HB7, hb7⟩; have K7 := hide (K4.out.keep hb7); have HSM := hide (same_z (t := true) K7.out.row HB7.out.2.1 HOM.out HB7.out.1 (by simp)); clear HRR5 hb7 c0' c1' c2'))
          | (go_at_call 14; go_must ((with_reducible refine (Hid.out HSM).mono ?_); rintro e w8 ⟨rfl, hb8⟩; have K8 := hide (K7.out.keep hb8); clear HSM hb8))
          | (go_at_call 9; go_must ((with_reducible refine (HW.out _).mono ?_); rintro e w9 ⟨rfl, hb9⟩; have K9 := hide (K8.out.keep hb9); clear hb9)))
        go_ret
        exact ⟨rfl, K9.out.below⟩
      · obtain ⟨s', n', hrun, hst, hn', hec⟩ := run_cut (L := L) (c := k) (room := r) (rows := ls) (mm := 3 * cnt ls + ls.length + 1) (by omega) k0 (by omega) (Nat.le_refl _)
        have e4 : outE 8 s' = [] := rfl
        have HRUN : Hid (∀ b W, Hid (SE w b L k 0 [] W) → _) := hide (fun b W hW => run_any (nr := n) hW q2 q1 (by omega) (fun l hl => by have := q4 l hl; omega) (by omega) (by omega) (by omega) (by omega) (Nat.le_refl _) hrun (rz := (r : Int)) rfl)
        rw [hst, e4] at HRUN
        obtain ⟨zse, hzse⟩ : ∃ zse : Int, zse = (s'.se : Int) := ⟨_, rfl⟩
        obtain ⟨zec, hzec⟩ : ∃ zec : Int, zec = (s'.ec : Int) := ⟨_, rfl⟩
        have hzle : zec ≤ (n : Int) := by omega
        rw [← hzse, ← hzec] at HRUN
        have HN' := hide hn'
        clear hls ha hf hc h1 hk hr hL q1 q2 q3 q4 q5 hrun hst hn' hec e4 hK hzse hzec
        go_enter Try.func6, Try.ntmps6
        go_upto_region 5 with (first
          | (go_at_call 8; go_must ((with_reducible refine (Hid.out HF).mono ?_); rintro e w1 ⟨rfl, hq⟩; replace hq := hq.symm; subst hq; clear HF))
          | (go_at_call 10; go_must ((with_reducible refine (Hid.out N0).mono ?_); rintro e w2 ⟨b, rfl, H2⟩; have R2 := hide (HRUN.out b w2 H2); clear N0))
          | (go_at_call 11; go_must ((with_reducible refine (Hid.out R2).mono ?_); rintro e w3 ⟨oa, om, oc, rfl, HO, HS⟩; clear R2)))
        have hom : om = 0 := HO.out.1
        subst hom
        have K4 : Hid (LK w w3.heap.size k zse zec oa oc [] (w3.alloc (.cells #[.int .i64 k, .int .i64 zse, .int .i64 zec] 29))) := hide ⟨HS.out.below.alloc HS.out.below.size _, Is.made _ _ _ rfl, HO.out.2.1.keep ((Below.refl _ _).alloc (Nat.le_refl _) _)⟩
        have HS4 := hide (HS.out.keep (w' := w3.alloc (.cells #[.int .i64 k, .int .i64 zse, .int .i64 zec] 29)) ((Below.refl _ _).alloc (Nat.le_refl _) _))
        generalize w3.heap.size = B at K4 ⊢
        generalize (w3.alloc (.cells #[.int .i64 k, .int .i64 zse, .int .i64 zec] 29)) = W5 at K4 HS4 ⊢
        have HCN5 := hide (HCN.out W5 K4.out.below)
        have HST := hide (stepsE HS4 (z := k) HN'.out.symm)
        obtain ⟨c0', c1', c2'⟩ := K4.out.cells
        clear HO HS HRUN HCN HRR
        go_wp2_with (first
          | (go_at_call 19; go_must ((with_reducible refine (Hid.out HCN5).mono ?_); rintro e w6 ⟨rfl, rfl⟩))
          | (go_at_call 17; go_must ((with_reducible refine (Hid.out HST).mono ?_); rintro e w7 ⟨rfl, rfl⟩))
          | (go_at_call 9; go_must ((with_reducible refine (HW.out _).mono ?_); rintro e w9 ⟨rfl, hb9⟩; have K9 := hide (K4.out.keep hb9); clear hb9)))
        go_ret
        exact ⟨rfl, K9.out.below⟩
end Go.Proofs.Ytkjdjmcecjaolaa.Walk
