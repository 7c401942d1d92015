/- BitsNone, over open contracts. -/
import Derived.Test.YtbljbhgelcakdaaDoorBitClone
namespace Go.Proofs.YtbljbhgelcakdaaDoor.Bit
open Go.RowKit Go.Proofs.YtbljbhgelcakdaaDoor.Dig Go.Proofs.YtbljbhgelcakdaaDoor.Mem
set_option linter.unusedVariables false
set_option linter.unusedSimpArgs false

theorem setB_nil (l : List Int) (so : Bool) : setB [] l so = [] := List.eq_nil_of_length_eq_zero (by rw [setB_length]; rfl)
def fb : List Bool := newB 5 true
def fd : List Bool := withB fb [] 1
theorem fb_minus : withB fb [] 2 = fb := by decide +kernel
theorem fb_or : withB fb [] 0 = fb := by decide +kernel
theorem fb_count : (listB fb).length = 5 := by decide +kernel
theorem fd_list : listB fd = [] := by decide +kernel
theorem fb_not : decide (listB [] = listB fb) = false := by decide +kernel
theorem hasB_nil (k : Int) : hasB [] k = false := by
  unfold hasB
  rw [decide_eq_false (by simp)]
  rfl
theorem newB_none (n : Int) : listB (newB n false) = [] := by
  rw [List.eq_nil_iff_forall_not_mem]
  intro x hx
  rw [mem_listB] at hx
  unfold hasB at hx
  rw [Bool.and_eq_true, newB_getD] at hx
  exact absurd hx.2 (by simp)
section
variable {At : World → Value → (Nat → Prop) → List Bool → Prop}
set_option maxHeartbeats 4000000 in
set_option maxRecDepth 20000 in
theorem none_any (A : Api At) (w : World) (HT : Hid (Tab w)) (k n : Int) (hk : (Lit.int .i64 k).wf = true) (hn : (Lit.int .i64 n).wf = true) :
    Calls Tryd.prog 6 #[.int .i64 k, .int .i64 n] w fun e w' => e = .returned (.bool true) ∧ Below w.heap.size w w' := by
  have H0 : Hid (Env At w [(.pointer none, []), (.pointer none, [])] [(some ⟨w.heap.size, 0, none⟩, 1, [k])] [] [] (w.alloc (.cells #[.int .i64 k] 3))) :=
    (((Env.start w HT.out).made A (Below.refl _ _) (A.nil w) (fun _ q => q.elim)).made A (Below.refl _ _) (A.nil w) (fun _ q => q.elim)).lay A [k] 3 rfl rfl (by simp) (by simpa using hk)
  have WK := hide hk
  have WN := hide hn
  obtain ⟨N, hN⟩ : ∃ N, N = (newB n false).length := ⟨_, rfl⟩
  have KN := hide hN
  have hmin : min n 65536 = min n 65536 := rfl
  have hmax : max 0 (min n 65536) = (N : Int) := by rw [hN, newB_length]; omega
  have g0 : ((N : Int) == N) = true := by simp
  have S1 := hide (putE A 0 (p := .pointer none) (m := []) (m3 := []) (l := [k]) (n := 1) (a := some ⟨w.heap.size, 0, none⟩) (c := 1) H0 rfl (by simp) rfl (by simp) (setB_nil _ _))
  clear hk hn hN hmin
  go_enter Tryd.func6, Tryd.ntmps6
  go_wp2_with (first
    | (go_at_call 21; (with_reducible refine (Hid.out S1).mono ?_); go_must (clear S1; rintro e w1 ⟨rfl, H1⟩; have L1 := hide (H1.out.lay A [k] 3 (b := w1.heap.size) (n := 1) rfl rfl (by simp) (by simpa using WK.out)); have S2 := hide (dropE A 0 (p := .pointer none) (m := []) (m3 := []) (l := [k]) (n := 1) (a := some ⟨w1.heap.size, 0, none⟩) (c := 1) L1 rfl (by simp) rfl (by simp) (setB_nil _ _))))
    | (go_at_call 24; go_must (refine (Hid.out S2).mono ?_; clear S2; rintro e w2 ⟨rfl, H2⟩; have S3 := hide (fullE A 5 (m := fb) H2 (by decide) rfl)))
    | (go_at_call 9; (with_reducible refine (Hid.out S3).mono ?_); go_must (clear S3; rintro e w3 ⟨p1, rfl, H3⟩; have S4 := hide (orE A 0 2 (p := .pointer none) (m := []) (q := p1) (m2 := fb) (m3 := []) H3 rfl rfl (by decide) rfl)))
    | (go_at_call 27; (with_reducible refine (Hid.out S4).mono ?_); go_must (clear S4; rintro e w4 ⟨rfl, H4⟩; have S5 := hide (fullE A 5 (m := fb) H4 (by decide) rfl)))
    | (go_at_call 9; (with_reducible refine (Hid.out S5).mono ?_); go_must (clear S5; rintro e w5 ⟨p2, rfl, H5⟩; have S6 := hide (andE A 0 3 (p := .pointer none) (m := []) (q := p2) (m2 := fb) (m3 := []) H5 rfl rfl (by decide) rfl)))
    | (go_at_call 28; (with_reducible refine (Hid.out S6).mono ?_); go_must (clear S6; rintro e w6 ⟨rfl, H6⟩; have S7 := hide (minusE A 0 1 (p := .pointer none) (m := []) (q := .pointer none) (m2 := []) (m3 := []) H6 rfl rfl (by decide) rfl)))
    | (go_at_call 29; (with_reducible refine (Hid.out S7).mono ?_); go_must (clear S7; rintro e w7 ⟨rfl, H7⟩; have S8 := hide (fullE A 5 (m := fb) H7 (by decide) rfl)))
    | (go_at_call 9; (with_reducible refine (Hid.out S8).mono ?_); go_must (clear S8; rintro e w8 ⟨p3, rfl, H8⟩; have S9 := hide (minusE A 4 0 (p := p3) (m := fb) (q := .pointer none) (m2 := []) (m3 := fb) H8 rfl rfl (by decide) fb_minus)))
    | (go_at_call 29; (with_reducible refine (Hid.out S9).mono ?_); go_must (clear S9; rintro e w9 ⟨rfl, H9⟩; have T1 := hide (orE A 4 0 (p := p3) (m := fb) (q := .pointer none) (m2 := []) (m3 := fb) H9 rfl rfl (by decide) fb_or)))
    | (go_at_call 27; (with_reducible refine (Hid.out T1).mono ?_); go_must (clear T1; rintro e wa ⟨rfl, Ha⟩; have T2 := hide (fullE A 5 (m := fb) Ha (by decide) rfl)))
    | (go_at_call 9; (with_reducible refine (Hid.out T2).mono ?_); go_must (clear T2; rintro e wb ⟨p4, rfl, Hb⟩; have T3 := hide (andE A 5 0 (p := p4) (m := fb) (q := .pointer none) (m2 := []) (m3 := fd) Hb rfl rfl (by decide) rfl)))
    | (go_at_call 28; (with_reducible refine (Hid.out T3).mono ?_); go_must (clear T3; rintro e wc ⟨rfl, Hc⟩; have T4 := hide (newE A n (m := newB n false) Hc WN.out rfl)))
    | (go_at_call 8; (with_reducible refine (Hid.out T4).mono ?_); go_must (clear T4; rintro e wd ⟨p5, rfl, Hd⟩; have T5 := hide (hasE A 0 k (p := .pointer none) (m := []) (r := false) Hd rfl WK.out (hasB_nil k))))
    | (go_at_call 17; (with_reducible refine (Hid.out T5).mono ?_); go_must (clear T5; rintro e we ⟨rfl, He⟩; have T6 := hide (roomE A 0 (p := .pointer none) (m := []) (n := 0) He rfl rfl)))
    | (go_at_call 12; (with_reducible refine (Hid.out T6).mono ?_); go_must (clear T6; rintro e wf ⟨rfl, Hf⟩; have T7 := hide (countE A 0 (p := .pointer none) (m := []) (n := 0) Hf rfl rfl)))
    | (go_at_call 16; (with_reducible refine (Hid.out T7).mono ?_); go_must (clear T7; rintro e wg ⟨rfl, Hg⟩; have T8 := hide (listE A 0 (p := .pointer none) (m := []) (l := []) (n := 0) Hg rfl rfl rfl)))
    | (go_at_call 14; (with_reducible refine (Hid.out T8).mono ?_); go_must (clear T8; rintro e wh ⟨ah, ch, rfl, Hh⟩; have T9 := hide (nextE A 0 k (p := .pointer none) (m := []) (r := -1) Hh rfl WK.out rfl)))
    | (go_at_call 19; (with_reducible refine (Hid.out T9).mono ?_); go_must (clear T9; rintro e wi ⟨rfl, Hi⟩; have U1 := hide (cloneE A 0 (p := .pointer none) (m := []) Hi rfl)))
    | (go_at_call 25; (with_reducible refine (Hid.out U1).mono ?_); go_must (clear U1; rintro e wj ⟨p6, rfl, Hj⟩; have U2 := hide (roomE A 7 (p := p6) (m := []) (n := 0) Hj rfl rfl)))
    | (go_at_call 12; (with_reducible refine (Hid.out U2).mono ?_); go_must (clear U2; rintro e wk ⟨rfl, Hk⟩; have U3 := hide (countE A 4 (p := p3) (m := fb) (n := 5) Hk rfl fb_count)))
    | (go_at_call 16; (with_reducible refine (Hid.out U3).mono ?_); go_must (clear U3; rintro e wl ⟨rfl, Hl⟩; have U4 := hide (countE A 5 (p := p4) (m := fd) (n := 0) Hl rfl (by rw [fd_list]; rfl))))
    | (go_at_call 16; (with_reducible refine (Hid.out U4).mono ?_); go_must (clear U4; rintro e wm ⟨rfl, Hm⟩; have U5 := hide (psameE A 0 5 (p := .pointer none) (q := p4) (m := []) (m2 := fd) (r := true) Hm rfl rfl (by rw [fd_list]; rfl))))
    | (go_at_call 26; (with_reducible refine (Hid.out U5).mono ?_); go_must (clear U5; rintro e wn ⟨rfl, Hn⟩; have U6 := hide (psameE A 0 4 (p := .pointer none) (q := p3) (m := []) (m2 := fb) (r := false) Hn rfl rfl fb_not)))
    | (go_at_call 26; (with_reducible refine (Hid.out U6).mono ?_); go_must (clear U6; rintro e wo ⟨rfl, Ho⟩; have U7 := hide (roomE A 6 (p := p5) (m := newB n false) (n := N) Ho rfl KN.out.symm)))
    | (go_at_call 12; (with_reducible refine (Hid.out U7).mono ?_); go_must (clear U7; rintro e wp ⟨rfl, Hp⟩; have U8 := hide (countE A 6 (p := p5) (m := newB n false) (n := 0) Hp rfl (by rw [newB_none]; rfl))))
    | (go_at_call 16; (with_reducible refine (Hid.out U8).mono ?_); go_must (clear U8; rintro e wq ⟨rfl, Hq⟩; have HBo := hide Hq.out.below))
    | (go_at_call 7; go_must ((with_reducible refine (works6_any A _ (by first | with_reducible exact HT.out | with_reducible exact tabx (by assumption))).mono ?_); rintro e wr ⟨rfl, hb1⟩; have HB1 := hide hb1; clear hb1)))
  all_goals
    go_ret
    exact ⟨rfl, HBo.out.trans (HB1.out.mono HBo.out.size)⟩
end
end Go.Proofs.YtbljbhgelcakdaaDoor.Bit
