/- MergeNone, walked. -/
import Derived.Test.YtkjdjmcecjaolaaAll12
namespace Go.Proofs.Ytkjdjmcecjaolaa.Walk
open Go.RowKit Go.Proofs.Ytkjdjmcecjaolaa.Dig Go.Proofs.Ytkjdjmcecjaolaa.Mem Go.Proofs.Ytkjdjmcecjaolaa.Dq Go.Proofs.Ytkjdjmcecjaolaa.Thing Go.Proofs.Ytkjdjmcecjaolaa.Pick Go.Proofs.Ytkjdjmcecjaolaa.Mrg
set_option linter.unusedVariables false
set_option linter.unusedSimpArgs false

theorem eql_stats (W : World) : (binOp .eql 29 (.agg #[.int .i64 0, .int .i64 0, .int .i64 0]) (.agg #[.int .i64 0, .int .i64 0, .int .i64 0])).run Try.prog W = .ok (.bool true) W := by kernel_rfl
/-- Two boxes of zeros. -/
structure TwoB (w : World) (B C : Nat) (W : World) : Prop where
  below : Below w.heap.size w W
  b : Is W B z3
  c : Is W C z3
theorem TwoB.keep {w W W' : World} {B C : Nat} (h : TwoB w B C W) (hb : Below W.heap.size W W') : TwoB w B C W' := ⟨h.below.trans (hb.mono h.below.size), h.b.below hb, h.c.below hb⟩
theorem TwoB.cells {w W : World} {B C : Nat} (h : TwoB w B C W) : (W.cell? ⟨B, 0, none⟩ = some (.int .i64 0) ∧ W.cell? ⟨B, 1, none⟩ = some (.int .i64 0) ∧ W.cell? ⟨B, 2, none⟩ = some (.int .i64 0)) ∧ W.cell? ⟨C, 0, none⟩ = some (.int .i64 0) ∧ W.cell? ⟨C, 1, none⟩ = some (.int .i64 0) ∧ W.cell? ⟨C, 2, none⟩ = some (.int .i64 0) := ⟨⟨h.b.cell 0 rfl, h.b.cell 1 rfl, h.b.cell 2 rfl⟩, h.c.cell 0 rfl, h.c.cell 1 rfl, h.c.cell 2 rfl⟩
set_option maxHeartbeats 4000000 in
set_option maxRecDepth 20000 in
theorem walk_mergeNone (w : World) (a : Option Addr) (n p : Nat) (ls : List (List Int)) (hls : ListsAt (fun b => b < w.heap.size) w (.slice a n p) ls) (r : Int) (hc : (Lit.int .i64 r).wf = true) :
    Calls Try.prog 7 #[.slice a n p, .int .i64 r] w fun e w' => e = .returned (.bool true) ∧ Below w.heap.size w w' := by
  have HF := hide (few_any hls)
  cases hf : fewL ls with
  | false =>
    rw [hf] at HF
    clear hls hf hc
    go_enter Try.func7, Try.ntmps7
    go_wp2_with (first
      | (go_at_call 8; go_must ((with_reducible refine (Hid.out HF).mono ?_); rintro e w1 ⟨rfl, rfl⟩))
      | (go_at_call 9; go_must ((with_reducible refine (works_any _).mono ?_); rintro e w2 ⟨rfl, hb2⟩)))
    go_ret
    exact ⟨rfl, hb2⟩
  | true =>
    rw [hf] at HF
    obtain ⟨q1, q2, q3, q4, q5⟩ := few_rows hls hf
    have N0 := hide (newE (w := w) (wx := w) (hide (Kn.start w)) (rowi_nil0 w) (m := 0) rfl (by simp) (-1))
    have HW := hide (fun W => works_any W)
    have E := eql_stats
    by_cases g1 : r < 1
    · have HRN : Hid (∀ W, Below w.heap.size w W → _) := hide (fun W hW => run_no (n := n) (a := a) (cc := p) r (.pointer none) (.inl g1) W)
      clear hls hf hc q1 q2 q3 q4 q5
      go_enter Try.func7, Try.ntmps7
      go_upto_region 4 with (first
        | (go_at_call 8; go_must ((with_reducible refine (Hid.out HF).mono ?_); rintro e w1 ⟨rfl, hq⟩; replace hq := hq.symm; subst hq; clear HF))
        | (go_at_call 10; go_must ((with_reducible refine (Hid.out N0).mono ?_); rintro e w2 ⟨b, rfl, H2⟩; clear N0))
        | (go_at_call 11; go_must ((with_reducible refine (run_nilc 1 _ _).mono ?_); rintro e w3 ⟨rfl, hb3⟩; have HB3 := hide (H2.out.below.trans (hb3.mono H2.out.below.size)); clear hb3)))
      have K4 : Hid (Below w.heap.size w (w3.alloc (.cells #[.int .i64 0, .int .i64 0, .int .i64 0] 29)) ∧ Is (w3.alloc (.cells #[.int .i64 0, .int .i64 0, .int .i64 0] 29)) w3.heap.size z3) := hide ⟨HB3.out.alloc HB3.out.size _, Is.made _ _ _ rfl⟩
      generalize w3.heap.size = B at K4 ⊢
      generalize (w3.alloc (.cells #[.int .i64 0, .int .i64 0, .int .i64 0] 29)) = W5 at K4 ⊢
      have HRN5 := hide (HRN.out W5 K4.out.1)
      clear HRN H2 HB3
      go_upto_region 6 with (go_at_call 11; go_must ((with_reducible refine (Hid.out HRN5).mono ?_); rintro e w6 ⟨rfl, hb6⟩; have K6 : Hid (TwoB w B w6.heap.size (w6.alloc (.cells #[.int .i64 0, .int .i64 0, .int .i64 0] 29))) := hide ⟨(K4.out.1.trans (hb6.mono K4.out.1.size)).alloc (Nat.le_trans K4.out.1.size hb6.size) _, (K4.out.2.below hb6).alloc _, Is.made _ _ _ rfl⟩; clear hb6 HRN5))
      generalize w6.heap.size = C at K6 ⊢
      generalize (w6.alloc (.cells #[.int .i64 0, .int .i64 0, .int .i64 0] 29)) = W7 at K6 ⊢
      obtain ⟨⟨d0, d1, d2⟩, d3, d4, d5⟩ := K6.out.cells
      clear K4
      go_wp2_with (first
        | (go_at_call 21; go_must ((with_reducible refine (rows_nilc _).mono ?_); rintro e w8 ⟨rfl, rfl⟩))
        | (go_at_call 9; go_must ((with_reducible refine (HW.out _).mono ?_); rintro e w9 ⟨rfl, hb9⟩; have K9 := hide (K6.out.keep hb9); clear hb9)))
      go_ret
      exact ⟨rfl, K9.out.below⟩
    · by_cases g2 : 64 < r
      · have HRN : Hid (∀ W, Below w.heap.size w W → _) := hide (fun W hW => run_no (n := n) (a := a) (cc := p) r (.pointer none) (.inr g2) W)
        clear hls hf hc q1 q2 q3 q4 q5
        go_enter Try.func7, Try.ntmps7
        go_upto_region 4 with (first
          | (go_at_call 8; go_must ((with_reducible refine (Hid.out HF).mono ?_); rintro e w1 ⟨rfl, hq⟩; replace hq := hq.symm; subst hq; clear HF))
          | (go_at_call 10; go_must ((with_reducible refine (Hid.out N0).mono ?_); rintro e w2 ⟨b, rfl, H2⟩; clear N0))
          | (go_at_call 11; go_must ((with_reducible refine (run_nilc 1 _ _).mono ?_); rintro e w3 ⟨rfl, hb3⟩; have HB3 := hide (H2.out.below.trans (hb3.mono H2.out.below.size)); clear hb3)))
        have K4 : Hid (Below w.heap.size w (w3.alloc (.cells #[.int .i64 0, .int .i64 0, .int .i64 0] 29)) ∧ Is (w3.alloc (.cells #[.int .i64 0, .int .i64 0, .int .i64 0] 29)) w3.heap.size z3) := hide ⟨HB3.out.alloc HB3.out.size _, Is.made _ _ _ rfl⟩
        generalize w3.heap.size = B at K4 ⊢
        generalize (w3.alloc (.cells #[.int .i64 0, .int .i64 0, .int .i64 0] 29)) = W5 at K4 ⊢
        have HRN5 := hide (HRN.out W5 K4.out.1)
        clear HRN H2 HB3
        go_upto_region 6 with (go_at_call 11; go_must ((with_reducible refine (Hid.out HRN5).mono ?_); rintro e w6 ⟨rfl, hb6⟩; have K6 : Hid (TwoB w B w6.heap.size (w6.alloc (.cells #[.int .i64 0, .int .i64 0, .int .i64 0] 29))) := hide ⟨(K4.out.1.trans (hb6.mono K4.out.1.size)).alloc (Nat.le_trans K4.out.1.size hb6.size) _, (K4.out.2.below hb6).alloc _, Is.made _ _ _ rfl⟩; clear hb6 HRN5))
        generalize w6.heap.size = C at K6 ⊢
        generalize (w6.alloc (.cells #[.int .i64 0, .int .i64 0, .int .i64 0] 29)) = W7 at K6 ⊢
        obtain ⟨⟨d0, d1, d2⟩, d3, d4, d5⟩ := K6.out.cells
        clear K4
        go_wp2_with (first
          | (go_at_call 21; go_must ((with_reducible refine (rows_nilc _).mono ?_); rintro e w8 ⟨rfl, rfl⟩))
          | (go_at_call 9; go_must ((with_reducible refine (HW.out _).mono ?_); rintro e w9 ⟨rfl, hb9⟩; have K9 := hide (K6.out.keep hb9); clear hb9)))
        go_ret
        exact ⟨rfl, K9.out.below⟩
      · obtain ⟨ρ, rfl⟩ : ∃ ρ : Nat, r = (ρ : Int) := ⟨r.toNat, by omega⟩
        have HRN : Hid (∀ W, Below w.heap.size w W → _) := hide (fun W hW => run_nils (n := n) (r := ρ) (q2.keep hW) q1 (by omega) (fun l hl => by have := q4 l hl; omega) (by omega) (by omega))
        clear hls hf hc q1 q2 q3 q4 q5
        go_enter Try.func7, Try.ntmps7
        go_upto_region 4 with (first
          | (go_at_call 8; go_must ((with_reducible refine (Hid.out HF).mono ?_); rintro e w1 ⟨rfl, hq⟩; replace hq := hq.symm; subst hq; clear HF))
          | (go_at_call 10; go_must ((with_reducible refine (Hid.out N0).mono ?_); rintro e w2 ⟨b, rfl, H2⟩; clear N0))
          | (go_at_call 11; go_must ((with_reducible refine (run_nilc 1 _ _).mono ?_); rintro e w3 ⟨rfl, hb3⟩; have HB3 := hide (H2.out.below.trans (hb3.mono H2.out.below.size)); clear hb3)))
        have K4 : Hid (Below w.heap.size w (w3.alloc (.cells #[.int .i64 0, .int .i64 0, .int .i64 0] 29)) ∧ Is (w3.alloc (.cells #[.int .i64 0, .int .i64 0, .int .i64 0] 29)) w3.heap.size z3) := hide ⟨HB3.out.alloc HB3.out.size _, Is.made _ _ _ rfl⟩
        generalize w3.heap.size = B at K4 ⊢
        generalize (w3.alloc (.cells #[.int .i64 0, .int .i64 0, .int .i64 0] 29)) = W5 at K4 ⊢
        have HRN5 := hide (HRN.out W5 K4.out.1)
        clear HRN H2 HB3
        go_upto_region 6 with (go_at_call 11; go_must ((with_reducible refine (Hid.out HRN5).mono ?_); rintro e w6 ⟨rfl, hb6⟩; have K6 : Hid (TwoB w B w6.heap.size (w6.alloc (.cells #[.int .i64 0, .int .i64 0, .int .i64 0] 29))) := hide ⟨(K4.out.1.trans (hb6.mono K4.out.1.size)).alloc (Nat.le_trans K4.out.1.size hb6.size) _, (K4.out.2.below hb6).alloc _, Is.made _ _ _ rfl⟩; clear hb6 HRN5))
        generalize w6.heap.size = C at K6 ⊢
        generalize (w6.alloc (.cells #[.int .i64 0, .int .i64 0, .int .i64 0] 29)) = W7 at K6 ⊢
        obtain ⟨⟨d0, d1, d2⟩, d3, d4, d5⟩ := K6.out.cells
        clear K4
        go_wp2_with (first
          | (go_at_call 21; go_must ((with_reducible refine (rows_nilc _).mono ?_); rintro e w8 ⟨rfl, rfl⟩))
          | (go_at_call 9; go_must ((with_reducible refine (HW.out _).mono ?_); rintro e w9 ⟨rfl, hb9⟩; have K9 := hide (K6.out.keep hb9); clear hb9)))
        go_ret
        exact ⟨rfl, K9.out.below⟩
end Go.Proofs.Ytkjdjmcecjaolaa.Walk
