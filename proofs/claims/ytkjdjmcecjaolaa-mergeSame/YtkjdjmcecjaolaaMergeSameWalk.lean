/- MergeSame, walked. -/
import Derived.Test.YtkjdjmcecjaolaaAll12
namespace Go.Proofs.Ytkjdjmcecjaolaa.Walk
open Go.RowKit Go.Proofs.Ytkjdjmcecjaolaa.Dig Go.Proofs.Ytkjdjmcecjaolaa.Mem Go.Proofs.Ytkjdjmcecjaolaa.Dq Go.Proofs.Ytkjdjmcecjaolaa.Thing Go.Proofs.Ytkjdjmcecjaolaa.Pick Go.Proofs.Ytkjdjmcecjaolaa.Mrg
set_option linter.unusedVariables false
set_option linter.unusedSimpArgs false

set_option maxHeartbeats 4000000 in
set_option maxRecDepth 20000 in
theorem walk_mergeSame (w : World) (a : Option Addr) (n p : Nat) (ls : List (List Int)) (hls : ListsAt (fun b => b < w.heap.size) w (.slice a n p) ls) (a2 : Option Addr) (m p2 : Nat) (zs : List Int) (ha : Frame.IsRow .i64 w a2 m p2 zs) (c : Int) (hc : (Lit.int .u8 c).wf = true) :
    Calls Try.prog 4 #[.slice a n p, .slice a2 m p2, .int .u8 c] w fun e w' => e = .returned (.bool true) ∧ Below w.heap.size w w' := by
  have HF := hide (few_any hls)
  cases hf : fewL ls with
  | false =>
    rw [hf] at HF
    clear hls ha hf hc
    go_enter Try.func4, Try.ntmps4
    go_wp2_with (first
      | (go_at_call 8; go_must ((with_reducible refine (Hid.out HF).mono ?_); rintro e w1 ⟨rfl, rfl⟩))
      | (go_at_call 9; go_must ((with_reducible refine (works_any _).mono ?_); rintro e w2 ⟨rfl, hb2⟩)))
    go_ret
    exact ⟨rfl, hb2⟩
  | true =>
    rw [hf] at HF
    by_cases h1 : 300 < m
    · have g1 : (300 : Int) < m := by omega
      clear hls ha hf hc h1
      go_enter Try.func4, Try.ntmps4
      go_wp2_with (first
        | (go_at_call 8; go_must ((with_reducible refine (Hid.out HF).mono ?_); rintro e w1 ⟨rfl, rfl⟩))
        | (go_at_call 9; go_must ((with_reducible refine (works_any _).mono ?_); rintro e w2 ⟨rfl, hb2⟩)))
      go_ret
      exact ⟨rfl, hb2⟩
    · have g1 : ¬ (300 : Int) < m := by omega
      obtain ⟨L, hL, hr⟩ := ha.rowi (by omega)
      obtain ⟨q1, q2, q3, q4, q5⟩ := few_rows hls hf
      obtain ⟨c0, c1⟩ := bounds_u8 hc
      obtain ⟨r, hr1⟩ : ∃ r : Nat, (1 + c % 64) = (r : Int) := ⟨(1 + c % 64).toNat, by omega⟩
      have N0 := hide (newE (hide (Kn.start w)) hr hL (by omega) (-1))
      obtain ⟨s', n', hrun, hst, hse, hec, hout, _⟩ := run_whole (L := L) (c := -1) (room := r) (rows := ls) (n := 0) (mm := 3 * cnt ls + ls.length + 1) (by omega) (by decide) (Nat.le_refl _)
      obtain ⟨K, hK⟩ : ∃ K, K = cnt ls := ⟨_, rfl⟩
      have e1 : ((s'.st : Nat) : Int) = 3 * (K : Int) + (n : Int) + 1 := by omega
      have e2 : ((s'.se : Nat) : Int) = (K : Int) := by omega
      have e3 : ((s'.ec : Nat) : Int) = (n : Int) + 1 := by omega
      have e4 : outE 0 s' = mixL ls := by unfold outE; rw [if_pos rfl, hout]
      have HRUN : Hid (∀ b W, Hid (SE w b L (-1) 0 [] W) → _) := hide (fun b W hW => run_any (nr := n) hW q2 q1 (by omega) (fun l hl => by have := q4 l hl; omega) (by omega) (by omega) (by omega) (by omega) (Nat.le_refl _) hrun (rz := (r : Int)) rfl)
      rw [e1, e2, e3, e4] at HRUN
      have HCN : Hid (∀ W, Below w.heap.size w W → _) := hide (fun W hW => count_any (q2.keep hW) q1 (by omega) (by omega))
      rw [← hK] at HCN
      have HRR : Hid (∀ W, Below w.heap.size w W → _) := hide (fun W hW => rrows_any (q2.keep hW) q1 (by omega) (by omega))
      have HW := hide (fun W => works_any W)
      have hn20 : n ≤ 20 := q3
      have hK8 : K ≤ 800 := by omega
      obtain ⟨M, hM⟩ : ∃ M, M = mixL ls := ⟨_, rfl⟩
      rw [← hM] at HRUN HRR
      clear hls ha hf hc h1 hr hL q1 q2 q3 q4 q5 hrun hst hse hec hout e1 e2 e3 e4 hK hM
      go_enter Try.func4, Try.ntmps4
      go_upto_region 4 with (first
        | (go_at_call 8; go_must ((with_reducible refine (Hid.out HF).mono ?_); rintro e w1 ⟨rfl, hq⟩; replace hq := hq.symm; subst hq; clear HF))
        | (go_at_call 10; go_must ((with_reducible refine (Hid.out N0).mono ?_); rintro e w2 ⟨b, rfl, H2⟩; have R2 := hide (HRUN.out b w2 H2); clear N0))
        | (go_at_call 11; go_must ((with_reducible refine (Hid.out R2).mono ?_); rintro e w3 ⟨oa, om, oc, rfl, HO, HS⟩; clear R2)))
      have HOM := hide HO.out.1
      have K4 : Hid (LK w w3.heap.size (3 * (K : Int) + (n : Int) + 1) (K : Int) ((n : Int) + 1) oa oc M (w3.alloc (.cells #[.int .i64 (3 * (K : Int) + (n : Int) + 1), .int .i64 (K : Int), .int .i64 ((n : Int) + 1)] 29))) := hide ⟨HS.out.below.alloc HS.out.below.size _, Is.made _ _ _ rfl, HO.out.2.1.keep ((Below.refl _ _).alloc (Nat.le_refl _) _)⟩
      generalize w3.heap.size = B at K4 ⊢
      generalize (w3.alloc (.cells #[.int .i64 (3 * (K : Int) + (n : Int) + 1), .int .i64 (K : Int), .int .i64 ((n : Int) + 1)] 29)) = W5 at K4 ⊢
      have HCN5 := hide (HCN.out W5 K4.out.below)
      have HRR5 := hide (HRR.out W5 K4.out.below)
      obtain ⟨c0', c1', c2'⟩ := K4.out.cells
      clear HO HS HRUN HCN HRR
      go_wp2_with (first
        | (go_at_call 19; go_must ((with_reducible refine (Hid.out HCN5).mono ?_); rintro e w6 ⟨rfl, rfl⟩))
        | (go_at_call 20; go_must ((with_reducible refine (Hid.out HRR5).mono ?_); rintro e w7 ⟨ob, on, od, rfl, HB7, hb7⟩; have K7 := hide (K4.out.keep hb7); have HSM := hide (same_z (t := true) K7.out.row HB7.out.2.1 HOM.out HB7.out.1 (by simp)); clear HRR5 hb7 c0' c1' c2'))
        | (go_at_call 14; go_must ((with_reducible refine (Hid.out HSM).mono ?_); rintro e w8 ⟨rfl, hb8⟩; have K8 := hide (K7.out.keep hb8); obtain ⟨c0', c1', c2'⟩ := K8.out.cells; clear HSM hb8))
        | (go_at_call 9; go_must ((with_reducible refine (HW.out _).mono ?_); rintro e w9 ⟨rfl, hb9⟩; have K9 := hide (K8.out.keep hb9); clear hb9)))
      go_ret
      exact ⟨rfl, K9.out.below⟩
end Go.Proofs.Ytkjdjmcecjaolaa.Walk
