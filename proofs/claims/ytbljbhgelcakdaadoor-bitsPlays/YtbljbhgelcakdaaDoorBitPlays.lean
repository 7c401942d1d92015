/- BitsPlays, over open contracts. -/
import Derived.Test.YtbljbhgelcakdaaDoorBitDo
import Derived.Test.YtbljbhgelcakdaaDoorBitActs
namespace Go.Proofs.YtbljbhgelcakdaaDoor.Bit
open Go.RowKit Go.Proofs.YtbljbhgelcakdaaDoor.Dig Go.Proofs.YtbljbhgelcakdaaDoor.Mem
set_option linter.unusedVariables false
set_option linter.unusedSimpArgs false

section
variable {At : World → Value → (Nat → Prop) → List Bool → Prop} {w wx : World} {os os' : List (Value × List Bool)} {ns ns' : List (Option Addr × Nat × List Int)} {bs bs' : List (Option Addr × Nat × List Bool)} {cs cs' : List (Nat × Array Value)}
/-- One set alone is kept. -/
theorem Env.pick (h : Env At w os ns bs cs wx) (i : Nat) {p : Value} {m : List Bool} (hi : os[i]? = some (p, m)) (hn : ∀ r ∈ ns', r ∈ ns) (hb : ∀ r ∈ bs', r ∈ bs) (hc : ∀ r ∈ cs', r ∈ cs) : Env At w [(p, m)] ns' bs' cs' wx := by
  obtain ⟨hlt, e⟩ := List.getElem?_eq_some_iff.1 hi
  obtain ⟨F, h1, h2, h3, h4, h5⟩ := h.sets
  refine ⟨h.tab, h.below, ⟨fun _ => F i, fun j hj => ?_, fun a b k ha hb hab => ?_, fun r hr q x e j _ => h3 r (hn r hr) q x e i hlt, fun r hr q x e j _ => h4 r (hb r hr) q x e i hlt, fun r hr j _ => h5 r (hc r hr) i hlt⟩, fun r hr => h.nums r (hn r hr), fun r hr => h.bools r (hb r hr), fun r hr => h.boxes r (hc r hr)⟩
  · obtain rfl : j = 0 := by simpa using hj
    have := h1 i hlt
    rw [e] at this
    exact this
  · simp at ha hb
    omega
theorem plays_no (A : Api At) (w : World) (HT : Hid (Tab w)) (n k : Int) (full : Bool) (a : Option Addr) (L c : Nat) (h : 300 < n ∨ 40 < L) (q1 : n ≤ 9223372036854775807) (q2 : L ≤ 9223372036854775807) : Calls Tryd.prog 3 #[.int .i64 n, .bool full, .slice a L c, .int .i64 k] w fun e w' => e = .returned (.bool true) ∧ Below w.heap.size w w' := by
  by_cases e1 : 300 < n
  · clear h
    go_enter Tryd.func3, Tryd.ntmps3
    go_wp2_with (first | (go_at_call 7; go_must ((with_reducible refine (works6_any A _ (by first | with_reducible exact HT.out | with_reducible exact tabx (by assumption))).mono ?_); rintro e w1 ⟨rfl, hb1⟩; have HBW := hide hb1; clear hb1)))
    go_ret
    exact ⟨rfl, HBW.out⟩
  · have g1 : (40 : Int) < L := by omega
    clear h
    go_enter Tryd.func3, Tryd.ntmps3
    go_wp2_with (first | (go_at_call 7; go_must ((with_reducible refine (works6_any A _ (by first | with_reducible exact HT.out | with_reducible exact tabx (by assumption))).mono ?_); rintro e w1 ⟨rfl, hb1⟩; have HBW := hide hb1; clear hb1)))
    go_ret
    exact ⟨rfl, HBW.out⟩
/-- Between two rounds. -/
def PlayR (At : World → Value → (Nat → Prop) → List Bool → Prop) (w : World) (p : Value) (L M : Nat) (mv jv : Value) (wr : World) : Prop :=
  ∃ (j : Nat) (m : List Bool) (a : Option Addr) (c : Nat), j ≤ L ∧ jv = .int .i64 (j : Int) ∧ mv = .slice a M c ∧ Hid (M = m.length) ∧ Hid (Env At w [(p, m)] [] [(a, c, m)] [] wr)
set_option maxHeartbeats 4000000 in
set_option maxRecDepth 20000 in
theorem plays_yes (A : Api At) (w : World) (HT : Hid (Tab w)) (n k : Int) (full : Bool) (av : Option Addr) (L cv : Nat) (acts : List ActM) (hn : (Lit.int .i64 n).wf = true) (hk : (Lit.int .i64 k).wf = true) (ha : ActsAt (fun b => b < w.heap.size) w (.slice av L cv) acts) (hL : L = acts.length) (e1 : n ≤ 300) (b0 : L ≤ 40) :
    Calls Tryd.prog 3 #[.int .i64 n, .bool full, .slice av L cv, .int .i64 k] w fun e w' => e = .returned (.bool true) ∧ Below w.heap.size w w' := by
  have H0 : Hid (Env At w [] [] [] [] w) := Env.start w HT.out
  have HA := hide ha
  have KK := hide hk
  have KW := hide hn
  have KL := hide hL
  obtain ⟨M, hM⟩ : ∃ M, M = (newB n full).length := ⟨_, rfl⟩
  have KM := hide hM
  have HM2 : Hid (M ≤ 65536) := hide (by rw [hM]; exact newB_le n full)
  have g0 : ¬ (40 : Int) < L := by omega
  clear ha hk hn hL hM
  have N1 := hide (newE A n (m := newB n false) H0 KW.out rfl)
  go_enter Tryd.func3, Tryd.ntmps3
  cases full with
  | false =>
    go_wp2_with (first
      | (go_at_call 8; go_must ((refine N1.out.mono ?_); rintro e w1 ⟨p, rfl, H1⟩))
      | (go_at_call 10; go_must ((refine (rnewE A n false (m := newB n false) (n := M) H1 KW.out rfl KM.out).mono ?_); rintro e w3 ⟨a3, c3, rfl, H3⟩)))
    have R0 : Hid (PlayR At w p L M (.slice a3 M c3) (.int .i64 0) w3) := ⟨0, newB n false, a3, c3, by omega, rfl, rfl, KM.out, H3.out.pick 0 rfl (by simp) (by simp) (by simp)⟩
    clear H3
    go_loopw [10, 11] (fun mv jv wr => PlayR At w p L M mv jv wr) (fun _ jv _ => L - (intOf jv).toNat)
    case atStart => exact R0.out
    case round =>
      obtain ⟨j, m, a, c, hj, rfl, rfl, hm, hE⟩ := hrel
      obtain ⟨W, hW⟩ : ∃ W, W = wr := ⟨_, rfl⟩
      subst hW
      clear R0
      have KM3 := hide hE.out.below
      by_cases hlt : j < L
      · obtain ⟨b, off, la, lc, rfl, f0, f1, f2, hin, hmx, hwd, hwr⟩ := (HA.out.keep hE.out.below).at (show j < acts.length by rw [← KL.out]; exact hlt)
        obtain ⟨act, hact⟩ : ∃ act, act = acts[j]'(by rw [← KL.out]; exact hlt) := ⟨_, rfl⟩
        rw [← hact] at f0 f1 f2 hin hmx hwd hwr
        obtain ⟨d, l, room⟩ := act
        simp only at f0 f1 f2 hin hmx hwd hwr
        clear hact
        obtain ⟨q, hq⟩ : ∃ q, q = l.length := ⟨_, rfl⟩
        rw [← hq] at f1 hin hmx
        unfold maxLen at hmx
        have hbd := bounds_i64 hwd
        have hbr := bounds_i64 hwr
        obtain ⟨d1, d2⟩ := hbd
        obtain ⟨r1, r2⟩ := hbr
        have KQ := hide hq
        have KD := hide hwd
        have KR := hide hwr
        have KIN := hide hin
        clear hq hwd hwr hin
        by_cases e2 : 40 < q
        · have g2 : (40 : Int) < q := by omega
          clear e2
          go_wp2_with (first | (go_at_call 7; go_must ((with_reducible refine (works6_any A _ (by first | with_reducible exact HT.out | with_reducible exact tabx (by assumption))).mono ?_); rintro e w1 ⟨rfl, hb1⟩; have HBW := hide hb1; clear hb1)))
          go_ret
          exact ⟨rfl, KM3.out.trans (HBW.out.mono KM3.out.size)⟩
        by_cases e3 : 300 < room
        · have g2 : ¬ (40 : Int) < q := by omega
          go_wp2_with (first | (go_at_call 7; go_must ((with_reducible refine (works6_any A _ (by first | with_reducible exact HT.out | with_reducible exact tabx (by assumption))).mono ?_); rintro e w1 ⟨rfl, hb1⟩; have HBW := hide hb1; clear hb1)))
          go_ret
          exact ⟨rfl, KM3.out.trans (HBW.out.mono KM3.out.size)⟩
        by_cases e4 : 4 < d
        · have g2 : ¬ (40 : Int) < q := by omega
          go_wp2_with (first | (go_at_call 7; go_must ((with_reducible refine (works6_any A _ (by first | with_reducible exact HT.out | with_reducible exact tabx (by assumption))).mono ?_); rintro e w1 ⟨rfl, hb1⟩; have HBW := hide hb1; clear hb1)))
          go_ret
          exact ⟨rfl, KM3.out.trans (HBW.out.mono KM3.out.size)⟩
        · have g2 : ¬ (40 : Int) < q := by omega
          have hrow := ints_row KIN.out (show l.length ≤ 1000000000000 by rw [← KQ.out]; omega)
          have H1 : Hid (Env At w [(p, m)] [(la, lc, l)] [(a, c, m)] [] W) := hide (hE.out.num A la lc l hrow.1 (fun F h1 hl x ex i hi hF => by have := (h1 i hi).2 _ hF; have := hrow.2 hl x ex; omega))
          have D1 := hide (do_any A p m a c M d room la lc q l H1 hm.out KQ.out (by rw [← KQ.out]; omega) (by rw [← hm.out]; exact HM2.out) KD.out (by omega) KR.out)
          obtain ⟨m2, hm2⟩ : ∃ m2, m2 = stepB m d l room := ⟨_, rfl⟩
          have KMM : Hid (M = m2.length) := hide (by rw [hm2, stepB_length]; exact hm.out)
          have KM1 : Hid (m2.length ≤ 100000) := hide (by rw [← KMM.out]; have := HM2.out; omega)
          rw [← hm2] at D1
          obtain ⟨l2, hl2⟩ : ∃ l2, listB m2 = l2 := ⟨_, rfl⟩
          obtain ⟨x, hx⟩ : ∃ x, x = l2.length := ⟨_, rfl⟩
          obtain ⟨hb, hhb⟩ : ∃ r, hasB m2 k = r := ⟨_, rfl⟩
          obtain ⟨nb, hnb⟩ : ∃ r, nextB m2 k = r := ⟨_, rfl⟩
          have KL2 := hide hl2
          have KX := hide hx
          have KHB := hide hhb
          have KNB := hide hnb
          have g5 : ((M : Int) != M) = false := by simp
          have g6 : ((x : Int) != x) = false := by simp
          have g7 : (hb != hb) = false := by simp
          have g8 : (nb != nb) = false := by simp
          clear hm2 hl2 hx hhb hnb hrow
          go_wp2_with (first
            | (go_at_call 11; go_must ((with_reducible refine D1.out.mono ?_); clear D1; rintro e w4 ⟨a4, c4, rfl, H4⟩; have T1 := hide (roomE A 0 (p := p) (m := m2) (n := M) H4 rfl KMM.out.symm)))
            | (go_at_call 12; go_must ((with_reducible refine (Hid.out T1).mono ?_); clear T1; rintro e w5 ⟨rfl, H5⟩))
            | (go_at_call 14; go_must ((refine (listE A 0 (p := p) (m := m2) (l := l2) (n := x) H5 rfl KL2.out KX.out).mono ?_); rintro e w6 ⟨a6, c6, rfl, H6⟩; have T2 := hide (rlistE A (a := a4) (c := c4) (m := m2) (n := M) (l := l2) (n2 := x) H6 (by simp) KMM.out KM1.out KL2.out KX.out)))
            | (go_at_call 15; (with_reducible refine (Hid.out T2).mono ?_); go_must (clear T2; rintro e w7 ⟨a7, c7, rfl, H7⟩; have T3 := hide (sameE A (a := a6) (c := c6) (l := l2) (a2 := a7) (c2 := c7) (l2 := l2) (n := x) (n2 := x) (r := true) H7 (by simp) (by simp) KX.out KX.out (by simp))))
            | (go_at_call 13; go_must ((with_reducible refine (Hid.out T3).mono ?_); clear T3; rintro e w8 ⟨rfl, H8⟩))
            | (go_at_call 16; go_must ((refine (countE A 0 (p := p) (m := m2) (n := x) H8 rfl (by rw [KL2.out, KX.out])).mono ?_); rintro e w9 ⟨rfl, H9⟩; have T4 := hide (rlistE A (a := a4) (c := c4) (m := m2) (n := M) (l := l2) (n2 := x) H9 (by simp) KMM.out KM1.out KL2.out KX.out)))
            | (go_at_call 15; (with_reducible refine (Hid.out T4).mono ?_); go_must (clear T4; rintro e wa ⟨aa, ca, rfl, Ha⟩))
            | (go_at_call 17; go_must ((refine (hasE A 0 k (p := p) (m := m2) (r := hb) Ha rfl KK.out KHB.out).mono ?_); rintro e wb ⟨rfl, Hb⟩))
            | (go_at_call 18; go_must ((refine (rhasE k (a := a4) (c := c4) (m := m2) (n := M) (r := hb) Hb (by simp) KMM.out KHB.out).mono ?_); rintro e wc ⟨rfl, hwc⟩; replace hwc := hwc.symm; subst hwc))
            | (go_at_call 19; go_must ((refine (nextE A 0 k (p := p) (m := m2) (r := nb) Hb rfl KK.out KNB.out).mono ?_); rintro e wd ⟨rfl, Hd⟩))
            | (go_at_call 20; go_must ((refine (rnextE k (a := a4) (c := c4) (m := m2) (n := M) (r := nb) Hd (by simp) KMM.out KK.out KNB.out).mono ?_); rintro e we ⟨rfl, hwe⟩; replace hwe := hwe.symm; subst hwe)))
          have HF : Hid (Env At w [(p, m2)] [] [(a4, c4, m2)] [] wd) := Hd.out.sub 1 rfl (by simp) (by simp) (by simp)
          go_roundw
          case rel => exact ⟨j + 1, m2, a4, c4, by omega, by simp, rfl, KMM.out, HF.out⟩
          case measure => simp [intOf]; omega
      · obtain rfl : L = j := by omega
        have gL : ¬ (L : Int) < L := by omega
        obtain ⟨l2, hl2⟩ : ∃ l2, listB m = l2 := ⟨_, rfl⟩
        obtain ⟨x, hx⟩ : ∃ x, x = l2.length := ⟨_, rfl⟩
        have KL2 := hide hl2
        have KX := hide hx
        have KM1 : Hid (m.length ≤ 100000) := hide (by rw [← hm.out]; have := HM2.out; omega)
        have g5 : ((M : Int) == M) = true := by simp
        clear hl2 hx
        go_wp2_with (first
          | (go_at_call 14; go_must ((refine (listE A 0 (p := p) (m := m) (l := l2) (n := x) hE rfl KL2.out KX.out).mono ?_); rintro e w6 ⟨a6, c6, rfl, H6⟩))
          | (go_at_call 15; go_must ((refine (rlistE A (a := a) (c := c) (m := m) (n := M) (l := l2) (n2 := x) H6 (by simp) hm.out KM1.out KL2.out KX.out).mono ?_); rintro e w7 ⟨a7, c7, rfl, H7⟩))
          | (go_at_call 13; go_must ((refine (sameE A (a := a6) (c := c6) (l := l2) (a2 := a7) (c2 := c7) (l2 := l2) (n := x) (n2 := x) (r := true) H7 (by simp) (by simp) KX.out KX.out (by simp)).mono ?_); rintro e w8 ⟨rfl, H8⟩))
          | (go_at_call 12; go_must ((refine (roomE A 0 (p := p) (m := m) (n := M) H8 rfl hm.out.symm).mono ?_); rintro e w9 ⟨rfl, H9⟩; have HB9 := hide H9.out.below))
          | (go_at_call 7; go_must ((with_reducible refine (works6_any A _ (by first | with_reducible exact HT.out | with_reducible exact tabx (by assumption))).mono ?_); rintro e w1 ⟨rfl, hb1⟩; have HBW := hide hb1; clear hb1)))
        go_ret
        exact ⟨rfl, HB9.out.trans (HBW.out.mono HB9.out.size)⟩
  | true =>
    go_wp2_with (first
      | (go_at_call 8; go_must ((refine N1.out.mono ?_); rintro e w1 ⟨p1, rfl, H1⟩))
      | (go_at_call 9; go_must ((refine (fullE A n (m := newB n true) H1 KW.out rfl).mono ?_); rintro e w2 ⟨p, rfl, H2⟩))
      | (go_at_call 10; go_must ((refine (rnewE A n true (m := newB n true) (n := M) H2 KW.out rfl KM.out).mono ?_); rintro e w3 ⟨a3, c3, rfl, H3⟩)))
    have R0 : Hid (PlayR At w p L M (.slice a3 M c3) (.int .i64 0) w3) := ⟨0, newB n true, a3, c3, by omega, rfl, rfl, KM.out, H3.out.pick 1 rfl (by simp) (by simp) (by simp)⟩
    clear H3
    go_loopw [10, 11] (fun mv jv wr => PlayR At w p L M mv jv wr) (fun _ jv _ => L - (intOf jv).toNat)
    case atStart => exact R0.out
    case round =>
      obtain ⟨j, m, a, c, hj, rfl, rfl, hm, hE⟩ := hrel
      obtain ⟨W, hW⟩ : ∃ W, W = wr := ⟨_, rfl⟩
      subst hW
      clear R0
      have KM3 := hide hE.out.below
      by_cases hlt : j < L
      · obtain ⟨b, off, la, lc, rfl, f0, f1, f2, hin, hmx, hwd, hwr⟩ := (HA.out.keep hE.out.below).at (show j < acts.length by rw [← KL.out]; exact hlt)
        obtain ⟨act, hact⟩ : ∃ act, act = acts[j]'(by rw [← KL.out]; exact hlt) := ⟨_, rfl⟩
        rw [← hact] at f0 f1 f2 hin hmx hwd hwr
        obtain ⟨d, l, room⟩ := act
        simp only at f0 f1 f2 hin hmx hwd hwr
        clear hact
        obtain ⟨q, hq⟩ : ∃ q, q = l.length := ⟨_, rfl⟩
        rw [← hq] at f1 hin hmx
        unfold maxLen at hmx
        have hbd := bounds_i64 hwd
        have hbr := bounds_i64 hwr
        obtain ⟨d1, d2⟩ := hbd
        obtain ⟨r1, r2⟩ := hbr
        have KQ := hide hq
        have KD := hide hwd
        have KR := hide hwr
        have KIN := hide hin
        clear hq hwd hwr hin
        by_cases e2 : 40 < q
        · have g2 : (40 : Int) < q := by omega
          clear e2
          go_wp2_with (first | (go_at_call 7; go_must ((with_reducible refine (works6_any A _ (by first | with_reducible exact HT.out | with_reducible exact tabx (by assumption))).mono ?_); rintro e w1 ⟨rfl, hb1⟩; have HBW := hide hb1; clear hb1)))
          go_ret
          exact ⟨rfl, KM3.out.trans (HBW.out.mono KM3.out.size)⟩
        by_cases e3 : 300 < room
        · have g2 : ¬ (40 : Int) < q := by omega
          go_wp2_with (first | (go_at_call 7; go_must ((with_reducible refine (works6_any A _ (by first | with_reducible exact HT.out | with_reducible exact tabx (by assumption))).mono ?_); rintro e w1 ⟨rfl, hb1⟩; have HBW := hide hb1; clear hb1)))
          go_ret
          exact ⟨rfl, KM3.out.trans (HBW.out.mono KM3.out.size)⟩
        by_cases e4 : 4 < d
        · have g2 : ¬ (40 : Int) < q := by omega
          go_wp2_with (first | (go_at_call 7; go_must ((with_reducible refine (works6_any A _ (by first | with_reducible exact HT.out | with_reducible exact tabx (by assumption))).mono ?_); rintro e w1 ⟨rfl, hb1⟩; have HBW := hide hb1; clear hb1)))
          go_ret
          exact ⟨rfl, KM3.out.trans (HBW.out.mono KM3.out.size)⟩
        · have g2 : ¬ (40 : Int) < q := by omega
          have hrow := ints_row KIN.out (show l.length ≤ 1000000000000 by rw [← KQ.out]; omega)
          have H1 : Hid (Env At w [(p, m)] [(la, lc, l)] [(a, c, m)] [] W) := hide (hE.out.num A la lc l hrow.1 (fun F h1 hl x ex i hi hF => by have := (h1 i hi).2 _ hF; have := hrow.2 hl x ex; omega))
          have D1 := hide (do_any A p m a c M d room la lc q l H1 hm.out KQ.out (by rw [← KQ.out]; omega) (by rw [← hm.out]; exact HM2.out) KD.out (by omega) KR.out)
          obtain ⟨m2, hm2⟩ : ∃ m2, m2 = stepB m d l room := ⟨_, rfl⟩
          have KMM : Hid (M = m2.length) := hide (by rw [hm2, stepB_length]; exact hm.out)
          have KM1 : Hid (m2.length ≤ 100000) := hide (by rw [← KMM.out]; have := HM2.out; omega)
          rw [← hm2] at D1
          obtain ⟨l2, hl2⟩ : ∃ l2, listB m2 = l2 := ⟨_, rfl⟩
          obtain ⟨x, hx⟩ : ∃ x, x = l2.length := ⟨_, rfl⟩
          obtain ⟨hb, hhb⟩ : ∃ r, hasB m2 k = r := ⟨_, rfl⟩
          obtain ⟨nb, hnb⟩ : ∃ r, nextB m2 k = r := ⟨_, rfl⟩
          have KL2 := hide hl2
          have KX := hide hx
          have KHB := hide hhb
          have KNB := hide hnb
          have g5 : ((M : Int) != M) = false := by simp
          have g6 : ((x : Int) != x) = false := by simp
          have g7 : (hb != hb) = false := by simp
          have g8 : (nb != nb) = false := by simp
          clear hm2 hl2 hx hhb hnb hrow
          go_wp2_with (first
            | (go_at_call 11; go_must ((with_reducible refine D1.out.mono ?_); clear D1; rintro e w4 ⟨a4, c4, rfl, H4⟩; have T1 := hide (roomE A 0 (p := p) (m := m2) (n := M) H4 rfl KMM.out.symm)))
            | (go_at_call 12; go_must ((with_reducible refine (Hid.out T1).mono ?_); clear T1; rintro e w5 ⟨rfl, H5⟩))
            | (go_at_call 14; go_must ((refine (listE A 0 (p := p) (m := m2) (l := l2) (n := x) H5 rfl KL2.out KX.out).mono ?_); rintro e w6 ⟨a6, c6, rfl, H6⟩; have T2 := hide (rlistE A (a := a4) (c := c4) (m := m2) (n := M) (l := l2) (n2 := x) H6 (by simp) KMM.out KM1.out KL2.out KX.out)))
            | (go_at_call 15; (with_reducible refine (Hid.out T2).mono ?_); go_must (clear T2; rintro e w7 ⟨a7, c7, rfl, H7⟩; have T3 := hide (sameE A (a := a6) (c := c6) (l := l2) (a2 := a7) (c2 := c7) (l2 := l2) (n := x) (n2 := x) (r := true) H7 (by simp) (by simp) KX.out KX.out (by simp))))
            | (go_at_call 13; go_must ((with_reducible refine (Hid.out T3).mono ?_); clear T3; rintro e w8 ⟨rfl, H8⟩))
            | (go_at_call 16; go_must ((refine (countE A 0 (p := p) (m := m2) (n := x) H8 rfl (by rw [KL2.out, KX.out])).mono ?_); rintro e w9 ⟨rfl, H9⟩; have T4 := hide (rlistE A (a := a4) (c := c4) (m := m2) (n := M) (l := l2) (n2 := x) H9 (by simp) KMM.out KM1.out KL2.out KX.out)))
            | (go_at_call 15; (with_reducible refine (Hid.out T4).mono ?_); go_must (clear T4; rintro e wa ⟨aa, ca, rfl, Ha⟩))
            | (go_at_call 17; go_must ((refine (hasE A 0 k (p := p) (m := m2) (r := hb) Ha rfl KK.out KHB.out).mono ?_); rintro e wb ⟨rfl, Hb⟩))
            | (go_at_call 18; go_must ((refine (rhasE k (a := a4) (c := c4) (m := m2) (n := M) (r := hb) Hb (by simp) KMM.out KHB.out).mono ?_); rintro e wc ⟨rfl, hwc⟩; replace hwc := hwc.symm; subst hwc))
            | (go_at_call 19; go_must ((refine (nextE A 0 k (p := p) (m := m2) (r := nb) Hb rfl KK.out KNB.out).mono ?_); rintro e wd ⟨rfl, Hd⟩))
            | (go_at_call 20; go_must ((refine (rnextE k (a := a4) (c := c4) (m := m2) (n := M) (r := nb) Hd (by simp) KMM.out KK.out KNB.out).mono ?_); rintro e we ⟨rfl, hwe⟩; replace hwe := hwe.symm; subst hwe)))
          have HF : Hid (Env At w [(p, m2)] [] [(a4, c4, m2)] [] wd) := Hd.out.sub 1 rfl (by simp) (by simp) (by simp)
          go_roundw
          case rel => exact ⟨j + 1, m2, a4, c4, by omega, by simp, rfl, KMM.out, HF.out⟩
          case measure => simp [intOf]; omega
      · obtain rfl : L = j := by omega
        have gL : ¬ (L : Int) < L := by omega
        obtain ⟨l2, hl2⟩ : ∃ l2, listB m = l2 := ⟨_, rfl⟩
        obtain ⟨x, hx⟩ : ∃ x, x = l2.length := ⟨_, rfl⟩
        have KL2 := hide hl2
        have KX := hide hx
        have KM1 : Hid (m.length ≤ 100000) := hide (by rw [← hm.out]; have := HM2.out; omega)
        have g5 : ((M : Int) == M) = true := by simp
        clear hl2 hx
        go_wp2_with (first
          | (go_at_call 14; go_must ((refine (listE A 0 (p := p) (m := m) (l := l2) (n := x) hE rfl KL2.out KX.out).mono ?_); rintro e w6 ⟨a6, c6, rfl, H6⟩))
          | (go_at_call 15; go_must ((refine (rlistE A (a := a) (c := c) (m := m) (n := M) (l := l2) (n2 := x) H6 (by simp) hm.out KM1.out KL2.out KX.out).mono ?_); rintro e w7 ⟨a7, c7, rfl, H7⟩))
          | (go_at_call 13; go_must ((refine (sameE A (a := a6) (c := c6) (l := l2) (a2 := a7) (c2 := c7) (l2 := l2) (n := x) (n2 := x) (r := true) H7 (by simp) (by simp) KX.out KX.out (by simp)).mono ?_); rintro e w8 ⟨rfl, H8⟩))
          | (go_at_call 12; go_must ((refine (roomE A 0 (p := p) (m := m) (n := M) H8 rfl hm.out.symm).mono ?_); rintro e w9 ⟨rfl, H9⟩; have HB9 := hide H9.out.below))
          | (go_at_call 7; go_must ((with_reducible refine (works6_any A _ (by first | with_reducible exact HT.out | with_reducible exact tabx (by assumption))).mono ?_); rintro e w1 ⟨rfl, hb1⟩; have HBW := hide hb1; clear hb1)))
        go_ret
        exact ⟨rfl, HB9.out.trans (HBW.out.mono HB9.out.size)⟩
end
end Go.Proofs.YtbljbhgelcakdaaDoor.Bit
