/- BitsClone, over open contracts. -/
import Derived.Test.YtbljbhgelcakdaaDoorBitWorks
namespace Go.Proofs.YtbljbhgelcakdaaDoor.Bit
open Go.RowKit Go.Proofs.YtbljbhgelcakdaaDoor.Dig Go.Proofs.YtbljbhgelcakdaaDoor.Mem
set_option linter.unusedVariables false
set_option linter.unusedSimpArgs false

theorem newB_getD (n : Int) (k : Nat) : (newB n false).getD k false = false := by
  unfold newB
  rw [List.getD_eq_getElem?_getD, List.getElem?_replicate]
  split <;> rfl
theorem newB_le (n : Int) (b : Bool) : (newB n b).length ≤ 65536 := by rw [newB_length]; omega
theorem dropped (n : Int) (l : List Int) : listB (setB (setB (newB n false) l true) l false) = [] := by
  rw [List.eq_nil_iff_forall_not_mem]
  intro x hx
  rw [mem_listB] at hx
  have hx' := hx
  unfold hasB at hx'
  rw [Bool.and_eq_true, decide_eq_true_eq] at hx'
  obtain ⟨k, rfl⟩ : ∃ k : Nat, x = (k : Int) := ⟨x.toNat, by omega⟩
  have hk : k < (setB (setB (newB n false) l true) l false).length := by omega
  rw [setB_length] at hk
  rw [hasB_nat, setB_getD false k l _ hk] at hx
  rw [setB_length] at hk
  by_cases h : (k : Int) ∈ l
  · rw [if_pos h] at hx; cases hx
  · rw [if_neg h, setB_getD true k l _ hk, if_neg h, newB_getD] at hx
    cases hx
section
variable {At : World → Value → (Nat → Prop) → List Bool → Prop}
theorem clone_no (A : Api At) (w : World) (HT : Hid (Tab w)) (n m : Int) (a0 a1 : Option Addr) (n0 n1 c0 c1 : Nat) (h : 300 < n ∨ 300 < m ∨ 300 < n0 ∨ 300 < n1) (q1 : n ≤ 9223372036854775807) (q2 : m ≤ 9223372036854775807) (m0 : n0 ≤ 9223372036854775807) (m1 : n1 ≤ 9223372036854775807) : Calls Tryd.prog 5 #[.int .i64 n, .int .i64 m, .slice a0 n0 c0, .slice a1 n1 c1] w fun e w' => e = .returned (.bool true) ∧ Below w.heap.size w w' := by
  by_cases e1 : 300 < n
  · clear h
    go_enter Tryd.func5, Tryd.ntmps5
    go_wp2_with (first | (go_at_call 7; go_must ((with_reducible refine (works6_any A _ (by first | with_reducible exact HT.out | with_reducible exact tabx (by assumption))).mono ?_); rintro e w1 ⟨rfl, hb1⟩; have HB1 := hide hb1; clear hb1)))
    go_ret
    exact ⟨rfl, HB1.out⟩
  by_cases e2 : 300 < m
  · clear h
    go_enter Tryd.func5, Tryd.ntmps5
    go_wp2_with (first | (go_at_call 7; go_must ((with_reducible refine (works6_any A _ (by first | with_reducible exact HT.out | with_reducible exact tabx (by assumption))).mono ?_); rintro e w1 ⟨rfl, hb1⟩; have HB1 := hide hb1; clear hb1)))
    go_ret
    exact ⟨rfl, HB1.out⟩
  by_cases h0 : 300 < n0
  · have g0 : (300 : Int) < n0 := by omega
    clear h
    go_enter Tryd.func5, Tryd.ntmps5
    go_wp2_with (first | (go_at_call 7; go_must ((with_reducible refine (works6_any A _ (by first | with_reducible exact HT.out | with_reducible exact tabx (by assumption))).mono ?_); rintro e w1 ⟨rfl, hb1⟩; have HB1 := hide hb1; clear hb1)))
    go_ret
    exact ⟨rfl, HB1.out⟩
  · have g0 : ¬ (300 : Int) < n0 := by omega
    have g1 : (300 : Int) < n1 := by omega
    clear h
    go_enter Tryd.func5, Tryd.ntmps5
    go_wp2_with (first | (go_at_call 7; go_must ((with_reducible refine (works6_any A _ (by first | with_reducible exact HT.out | with_reducible exact tabx (by assumption))).mono ?_); rintro e w1 ⟨rfl, hb1⟩; have HB1 := hide hb1; clear hb1)))
    go_ret
    exact ⟨rfl, HB1.out⟩
set_option maxHeartbeats 4000000 in
set_option maxRecDepth 20000 in
theorem clone_yes (A : Api At) (w : World) (HT : Hid (Tab w)) (n m : Int) (a0 a1 : Option Addr) (n0 n1 c0 c1 : Nat) (la lb : List Int) (hwn : (Lit.int .i64 n).wf = true) (hwm : (Lit.int .i64 m).wf = true) (ha : RowI w a0 c0 la) (hb : RowI w a1 c1 lb) (hn0 : n0 = la.length) (hn1 : n1 = lb.length) (e1 : n ≤ 300) (e2 : m ≤ 300) (b0 : n0 ≤ 300) (b1 : n1 ≤ 300) :
    Calls Tryd.prog 5 #[.int .i64 n, .int .i64 m, .slice a0 n0 c0, .slice a1 n1 c1] w fun e w' => e = .returned (.bool true) ∧ Below w.heap.size w w' := by
  have H0 : Hid (Env At w [] [(a1, c1, lb), (a0, c0, la)] [] [] w) := ((Env.start w HT.out).num A a0 c0 la ha (fun F _ _ x _ i hi => by simp at hi)).num A a1 c1 lb hb (fun F _ _ x _ i hi => by simp at hi)
  obtain ⟨X, hX⟩ : ∃ X, setB (newB n false) la true = X := ⟨_, rfl⟩
  obtain ⟨Y, hY⟩ : ∃ Y, setB (newB m false) lb true = Y := ⟨_, rfl⟩
  have HXL : Hid (X.length = (newB n false).length) := hide (by rw [← hX, setB_length])
  have HYL : Hid (Y.length = (newB m false).length) := hide (by rw [← hY, setB_length])
  have HZ : Hid (listB (setB X la false) = []) := by rw [← hX]; exact dropped n la
  obtain ⟨LX, hLX⟩ : ∃ L, listB X = L := ⟨_, rfl⟩
  obtain ⟨LY, hLY⟩ : ∃ L, listB Y = L := ⟨_, rfl⟩
  obtain ⟨r, hr⟩ : ∃ r, decide (LX = LY) = r := ⟨_, rfl⟩
  obtain ⟨N, hN⟩ : ∃ N, N = X.length := ⟨_, rfl⟩
  obtain ⟨M, hM⟩ : ∃ M, M = Y.length := ⟨_, rfl⟩
  obtain ⟨x, hx⟩ : ∃ x, x = LX.length := ⟨_, rfl⟩
  obtain ⟨y, hy⟩ : ∃ y, y = LY.length := ⟨_, rfl⟩
  have g0 : ¬ (300 : Int) < n0 := by omega
  have g1 : ¬ (300 : Int) < n1 := by omega
  have g2 : ((N : Int) != N) = false := by simp
  have g3 : (r != r) = false := by simp
  have KX := hide hX
  have KY := hide hY
  have KLX := hide hLX
  have KLY := hide hLY
  have KR := hide hr
  have KN := hide hN
  have KM := hide hM
  have Kx := hide hx
  have Ky := hide hy
  have K0 := hide hn0
  have K1 := hide hn1
  have K2 : Hid (la.length ≤ 1000) := hide (by omega)
  have K3 : Hid (lb.length ≤ 1000) := hide (by omega)
  have K4 : Hid (X.length ≤ 100000) := hide (by have := newB_le n false; rw [HXL.out]; omega)
  have K5 : Hid (Y.length ≤ 100000) := hide (by have := newB_le m false; rw [HYL.out]; omega)
  have K6 : Hid ((newB n false).length ≤ 100000) := hide (by have := newB_le n false; omega)
  have K7 : Hid ((newB m false).length ≤ 100000) := hide (by have := newB_le m false; omega)
  have KN2 : Hid (N = (newB n false).length) := hide (by rw [hN, HXL.out])
  have KM2 : Hid (M = (newB m false).length) := hide (by rw [hM, HYL.out])
  have W1 := hide hwn
  have W2 := hide hwm
  have HNn : Hid (newB n false = newB n false) := rfl
  have S1 := hide (newE A n (m := newB n false) H0 hwn rfl)
  clear hX hY hLX hLY hr hN hM hx hy hn0 hn1 hwn hwm ha hb b0 b1
  go_enter Tryd.func5, Tryd.ntmps5
  go_wp2_with (first
    | (go_at_call 8; (with_reducible refine (Hid.out S1).mono ?_); go_must (clear S1; rintro e w1 ⟨p1, rfl, H1⟩; have S2 := hide (newE A m (m := newB m false) H1 W2.out rfl)))
    | (go_at_call 8; (with_reducible refine (Hid.out S2).mono ?_); go_must (clear S2; rintro e w2 ⟨p2, rfl, H2⟩; have S3 := hide (putE A 0 (p := p1) (m := newB n false) (m3 := X) (l := la) (n := n0) (a := a0) (c := c0) H2 rfl (by simp) K0.out K2.out KX.out)))
    | (go_at_call 21; (with_reducible refine (Hid.out S3).mono ?_); go_must (clear S3; rintro e w3 ⟨rfl, H3⟩; have S4 := hide (putE A 1 (p := p2) (m := newB m false) (m3 := Y) (l := lb) (n := n1) (a := a1) (c := c1) H3 rfl (by simp) K1.out K3.out KY.out)))
    | (go_at_call 21; (with_reducible refine (Hid.out S4).mono ?_); go_must (clear S4; rintro e w4 ⟨rfl, H4⟩; have S5 := hide (rnewE A n false (m := newB n false) (n := N) H4 W1.out rfl KN2.out)))
    | (go_at_call 10; (with_reducible refine (Hid.out S5).mono ?_); go_must (clear S5; rintro e w5 ⟨a5, c5, rfl, H5⟩; have S6 := hide (rsetE A true (a := a5) (c := c5) (a2 := a0) (c2 := c0) (m := newB n false) (l := la) (m3 := X) (n := N) (n2 := n0) H5 (by simp) (by simp) KN2.out K0.out K6.out KX.out)))
    | (go_at_call 22; (with_reducible refine (Hid.out S6).mono ?_); go_must (clear S6; rintro e w6 ⟨a6, c6, rfl, H6⟩; have S7 := hide (rnewE A m false (m := newB m false) (n := M) H6 W2.out rfl KM2.out)))
    | (go_at_call 10; (with_reducible refine (Hid.out S7).mono ?_); go_must (clear S7; rintro e w7 ⟨a7, c7, rfl, H7⟩; have S8 := hide (rsetE A true (a := a7) (c := c7) (a2 := a1) (c2 := c1) (m := newB m false) (l := lb) (m3 := Y) (n := M) (n2 := n1) H7 (by simp) (by simp) KM2.out K1.out K7.out KY.out)))
    | (go_at_call 22; (with_reducible refine (Hid.out S8).mono ?_); go_must (clear S8; rintro e w8 ⟨a8, c8, rfl, H8⟩; have S9 := hide (cloneE A 0 (p := p1) (m := X) H8 rfl)))
    | (go_at_call 25; (with_reducible refine (Hid.out S9).mono ?_); go_must (clear S9; rintro e w9 ⟨p3, rfl, H9⟩; have T1 := hide (roomE A 2 (p := p3) (m := X) (n := N) H9 rfl KN.out.symm)))
    | (go_at_call 12; (with_reducible refine (Hid.out T1).mono ?_); go_must (clear T1; rintro e wa ⟨rfl, Ha⟩; have T2 := hide (roomE A 0 (p := p1) (m := X) (n := N) Ha rfl KN.out.symm)))
    | (go_at_call 12; (with_reducible refine (Hid.out T2).mono ?_); go_must (clear T2; rintro e wb ⟨rfl, Hb⟩; have T3 := hide (listE A 2 (p := p3) (m := X) (l := LX) (n := x) Hb rfl KLX.out Kx.out)))
    | (go_at_call 14; (with_reducible refine (Hid.out T3).mono ?_); go_must (clear T3; rintro e wc ⟨ac, cc, rfl, Hc⟩; have T4 := hide (rlistE A (a := a6) (c := c6) (m := X) (n := N) (l := LX) (n2 := x) Hc (by simp) KN.out K4.out KLX.out Kx.out)))
    | (go_at_call 15; (with_reducible refine (Hid.out T4).mono ?_); go_must (clear T4; rintro e wd ⟨ad, cd, rfl, Hd⟩; have T5 := hide (sameE A (a := ac) (c := cc) (l := LX) (a2 := ad) (c2 := cd) (l2 := LX) (n := x) (n2 := x) (r := true) Hd (by simp) (by simp) Kx.out Kx.out (by simp))))
    | (go_at_call 13; (with_reducible refine (Hid.out T5).mono ?_); go_must (clear T5; rintro e we ⟨rfl, He⟩; have T6 := hide (psameE A 2 0 (p := p3) (q := p1) (m := X) (m2 := X) (r := true) He rfl rfl (by simp))))
    | (go_at_call 26; (with_reducible refine (Hid.out T6).mono ?_); go_must (clear T6; rintro e wf ⟨rfl, Hf⟩; have T7 := hide (psameE A 0 1 (p := p1) (q := p2) (m := X) (m2 := Y) (r := r) Hf rfl rfl (by rw [KLX.out, KLY.out]; exact KR.out))))
    | (go_at_call 26; (with_reducible refine (Hid.out T7).mono ?_); go_must (clear T7; rintro e wg ⟨rfl, Hg⟩; have T8 := hide (rlistE A (a := a6) (c := c6) (m := X) (n := N) (l := LX) (n2 := x) Hg (by simp) KN.out K4.out KLX.out Kx.out)))
    | (go_at_call 15; (with_reducible refine (Hid.out T8).mono ?_); go_must (clear T8; rintro e wh ⟨ah, ch, rfl, Hh⟩; have T9 := hide (rlistE A (a := a8) (c := c8) (m := Y) (n := M) (l := LY) (n2 := y) Hh (by simp) KM.out K5.out KLY.out Ky.out)))
    | (go_at_call 15; (with_reducible refine (Hid.out T9).mono ?_); go_must (clear T9; rintro e wi ⟨ai, ci, rfl, Hi⟩; have U1 := hide (sameE A (a := ah) (c := ch) (l := LX) (a2 := ai) (c2 := ci) (l2 := LY) (n := x) (n2 := y) (r := r) Hi (by simp) (by simp) Kx.out Ky.out KR.out)))
    | (go_at_call 13; (with_reducible refine (Hid.out U1).mono ?_); go_must (clear U1; rintro e wj ⟨rfl, Hj⟩; have U2 := hide (dropE A 2 (p := p3) (m := X) (m3 := setB X la false) (l := la) (n := n0) (a := a0) (c := c0) Hj rfl (by simp) K0.out K2.out rfl)))
    | (go_at_call 24; (with_reducible refine (Hid.out U2).mono ?_); go_must (clear U2; rintro e wk ⟨rfl, Hk⟩; have U3 := hide (countE A 2 (p := p3) (m := setB X la false) (n := 0) Hk rfl (by rw [HZ.out]; rfl))))
    | (go_at_call 16; (with_reducible refine (Hid.out U3).mono ?_); go_must (clear U3; rintro e wl ⟨rfl, Hl⟩; have U4 := hide (listE A 0 (p := p1) (m := X) (l := LX) (n := x) Hl rfl KLX.out Kx.out)))
    | (go_at_call 14; (with_reducible refine (Hid.out U4).mono ?_); go_must (clear U4; rintro e wm ⟨am, cm, rfl, Hm⟩; have U5 := hide (rlistE A (a := a6) (c := c6) (m := X) (n := N) (l := LX) (n2 := x) Hm (by simp) KN.out K4.out KLX.out Kx.out)))
    | (go_at_call 15; (with_reducible refine (Hid.out U5).mono ?_); go_must (clear U5; rintro e wn ⟨an, cn, rfl, Hn⟩; have U6 := hide (sameE A (a := am) (c := cm) (l := LX) (a2 := an) (c2 := cn) (l2 := LX) (n := x) (n2 := x) (r := true) Hn (by simp) (by simp) Kx.out Kx.out (by simp))))
    | (go_at_call 13; (with_reducible refine (Hid.out U6).mono ?_); go_must (clear U6; rintro e wo ⟨rfl, Ho⟩; have HBo := hide Ho.out.below))
    | (go_at_call 7; go_must ((with_reducible refine (works6_any A _ (by first | with_reducible exact HT.out | with_reducible exact tabx (by assumption))).mono ?_); rintro e w1 ⟨rfl, hb1⟩; have HB1 := hide hb1; clear hb1)))
  go_ret
  exact ⟨rfl, HBo.out.trans (HB1.out.mono HBo.out.size)⟩
end
end Go.Proofs.YtbljbhgelcakdaaDoor.Bit
