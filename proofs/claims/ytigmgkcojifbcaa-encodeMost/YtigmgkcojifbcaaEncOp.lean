/- Contracts of opMayBe and met.op. -/
import Derived.Test.YtigmgkcojifbcaaEncMay
import Derived.Test.YtigmgkcojifbcaaEncKeys
import Derived.Test.YtigmgkcojifbcaaGrow
import Derived.Deep.DeepCutAuto
import Derived.Deep.RegionWith
namespace Go.Proofs.Ytigmgkcojifbcaa.Hist
open Go.RowKit Go.Proofs.Ytigmgkcojifbcaa.Dig Go.Proofs.Ytigmgkcojifbcaa.Mem Go.Proofs.Ytigmgkcojifbcaa.Keys
set_option linter.unusedVariables false
set_option linter.unusedSimpArgs false

theorem ints_one {w : World} {b : Nat} {n : Int} (h : Is w b #[.int .i64 n]) (hn : (Lit.int .i64 n).wf = true) : IntsAt (fun k => k = b) w (.slice (some ⟨b, 0, none⟩) 1 1) [n] :=
  ⟨RowAt.block (n := 1) (cs := [[.int .i64 n]]) (by simp) (by simpa using h) (by simp) (by unfold maxLen; omega), by simpa using hn⟩
theorem ints_two {w : World} {b : Nat} {n m : Int} (h : Is w b #[.int .i64 n, .int .i64 m]) (hn : (Lit.int .i64 n).wf = true) (hm : (Lit.int .i64 m).wf = true) : IntsAt (fun k => k = b) w (.slice (some ⟨b, 0, none⟩) 2 2) [n, m] :=
  ⟨RowAt.block (n := 1) (cs := [[.int .i64 n], [.int .i64 m]]) (by simp) (by simpa using h) (by simp) (by unfold maxLen; omega), by simp; exact ⟨hn, hm⟩⟩
theorem maybe1 (n : Int) (b : Nat) (w : World) {r : Bool} (h : Is w b #[.int .i64 n]) (hn : (Lit.int .i64 n).wf = true) (hr : Hid (mayB n = r)) :
    Calls Try.prog 41 #[.slice (some ⟨b, 0, none⟩) 1 1] w fun e w' => e = .returned (.bool r) ∧ w' = w := by
  have := maybe_any _ _ [n] w (ints_one h hn) (by simp)
  rw [← hr.out]
  simpa using this
theorem maybe2 (n m : Int) (b : Nat) (w : World) {r : Bool} (h : Is w b #[.int .i64 n, .int .i64 m]) (hn : (Lit.int .i64 n).wf = true) (hm : (Lit.int .i64 m).wf = true) (hr : Hid ((mayB n && mayB m) = r)) :
    Calls Try.prog 41 #[.slice (some ⟨b, 0, none⟩) 2 2] w fun e w' => e = .returned (.bool r) ∧ w' = w := by
  have := maybe_any _ _ [n, m] w (ints_two h hn hm) (by simp)
  rw [← hr.out]
  simpa using this
set_option maxHeartbeats 1000000 in
theorem opmay_any (F : Nat → Prop) (o : OpM) (lv : Value) (w : World) (h : IntsAt F w lv o.list) (hl : o.list.length ≤ 1000000) (w1 : (Lit.int .i64 o.key).wf = true) (w2 : (Lit.int .i64 o.value).wf = true) :
    Calls Try.prog 57 #[.agg #[.bool o.read, .int .i64 o.key, .int .i64 o.value, lv]] w fun e w' => e = .returned (.bool (mayOpB o)) ∧ Below w.heap.size w w' := by
  obtain ⟨a, c, rfl, _, _⟩ := h.shape
  have H := hide h
  have W1 := hide w1
  have W2 := hide w2
  clear h w1 w2
  by_cases hr : o.read = true
  · have hT : mayOpB o = (mayB o.key && o.list.all mayB && o.value == 0) := by unfold mayOpB; rw [if_pos hr]
    obtain ⟨b1, hb1⟩ : ∃ b, mayB o.key = b := ⟨_, rfl⟩
    have B1 := hide hb1
    cases b1 with
    | false =>
      have T : Hid (mayOpB o = false) := hide (by rw [hT, hb1]; rfl)
      clear hT hb1
      go_enter Try.func57, Try.ntmps57
      go_wp2_with (first | (go_at_call 41; (with_reducible refine (maybe1 o.key _ _ (Is.made _ _ _ (by first | rfl | simp)) W1.out B1).mono ?_); rintro e w1 ⟨rfl, hq⟩; replace hq := hq.symm; subst hq))
      go_ret
      exact ⟨by rw [T.out]; rfl, by repeat (first | exact Below.refl _ _ | refine Below.alloc ?_ (by first | omega | (simp; done) | (simp; omega)) _)⟩
    | true =>
      obtain ⟨b2, hb2⟩ : ∃ b, o.list.all mayB = b := ⟨_, rfl⟩
      have B2 := hide hb2
      cases b2 with
      | false =>
        have T : Hid (mayOpB o = false) := hide (by rw [hT, hb1, hb2]; rfl)
        clear hT hb1 hb2
        go_enter Try.func57, Try.ntmps57
        go_wp2_with (first | (go_at_call 41; (with_reducible refine (maybe1 o.key _ _ (Is.made _ _ _ (by first | rfl | simp)) W1.out B1).mono ?_); rintro e w1 ⟨rfl, hq⟩; replace hq := hq.symm; subst hq) | (go_at_call 41; (with_reducible refine (maybe_any F _ o.list _ (H.out.keep (by repeat (first | exact Below.refl _ _ | refine Below.alloc ?_ (by first | omega | (simp; done) | (simp; omega)) _))) hl).mono ?_); rw [B2.out]; rintro e w2 ⟨rfl, hq⟩; replace hq := hq.symm; subst hq))
        go_ret
        exact ⟨by rw [T.out]; rfl, by repeat (first | exact Below.refl _ _ | refine Below.alloc ?_ (by first | omega | (simp; done) | (simp; omega)) _)⟩
      | true =>
        have T : Hid (mayOpB o = (o.value == 0)) := hide (by rw [hT, hb1, hb2]; rfl)
        clear hT hb1 hb2
        go_enter Try.func57, Try.ntmps57
        go_wp2_with (first | (go_at_call 41; (with_reducible refine (maybe1 o.key _ _ (Is.made _ _ _ (by first | rfl | simp)) W1.out B1).mono ?_); rintro e w1 ⟨rfl, hq⟩; replace hq := hq.symm; subst hq) | (go_at_call 41; (with_reducible refine (maybe_any F _ o.list _ (H.out.keep (by repeat (first | exact Below.refl _ _ | refine Below.alloc ?_ (by first | omega | (simp; done) | (simp; omega)) _))) hl).mono ?_); rw [B2.out]; rintro e w2 ⟨rfl, hq⟩; replace hq := hq.symm; subst hq))
        go_ret
        exact ⟨by rw [T.out]; rfl, by repeat (first | exact Below.refl _ _ | refine Below.alloc ?_ (by first | omega | (simp; done) | (simp; omega)) _)⟩
  · have hr' : o.read = false := by simpa using hr
    have hT : mayOpB o = (mayB o.key && mayB o.value && o.list.length == 0) := by unfold mayOpB; rw [if_neg hr]
    clear hr
    obtain ⟨b1, hb1⟩ : ∃ b, (mayB o.key && mayB o.value) = b := ⟨_, rfl⟩
    have B1 := hide hb1
    cases b1 with
    | false =>
      have T : Hid (mayOpB o = false) := hide (by rw [hT, hb1]; rfl)
      clear hT hb1
      go_enter Try.func57, Try.ntmps57
      go_wp2_with (first | (go_at_call 41; (with_reducible refine (maybe2 o.key o.value _ _ (Is.made _ _ _ (by first | rfl | simp)) W1.out W2.out B1).mono ?_); rintro e w1 ⟨rfl, hq⟩; replace hq := hq.symm; subst hq))
      go_ret
      exact ⟨by rw [T.out]; rfl, by repeat (first | exact Below.refl _ _ | refine Below.alloc ?_ (by first | omega | (simp; done) | (simp; omega)) _)⟩
    | true =>
      have T : Hid (mayOpB o = ((o.list.length : Int) == 0)) := hide (by rw [hT, hb1, Bool.true_and, Bool.eq_iff_iff]; simp)
      clear hT hb1
      go_enter Try.func57, Try.ntmps57
      go_wp2_with (first | (go_at_call 41; (with_reducible refine (maybe2 o.key o.value _ _ (Is.made _ _ _ (by first | rfl | simp)) W1.out W2.out B1).mono ?_); rintro e w1 ⟨rfl, hq⟩; replace hq := hq.symm; subst hq))
      go_ret
      exact ⟨by rw [T.out]; rfl, by repeat (first | exact Below.refl _ _ | refine Below.alloc ?_ (by first | omega | (simp; done) | (simp; omega)) _)⟩
theorem opmay_at (F : Nat → Prop) (o : OpM) (rd : Bool) (lv : Value) (w : World) (hrd : o.read = rd) (h : IntsAt F w lv o.list) (hl : o.list.length ≤ 1000000) (w1 : (Lit.int .i64 o.key).wf = true) (w2 : (Lit.int .i64 o.value).wf = true) :
    Calls Try.prog 57 #[.agg #[.bool rd, .int .i64 o.key, .int .i64 o.value, lv]] w fun e w' => e = .returned (.bool (mayOpB o)) ∧ Below w.heap.size w w' := by
  subst hrd
  exact opmay_any F o lv w h hl w1 w2
/-- An operation's first error, by a set. -/
def chkP (P : Int × Int → Bool) (o : OpM) : Int := if mayOpB o = false then 2 else if o.read = false ∧ P (o.key, o.value) = true then 6 else 0
theorem chkP_eq (pre : List TxnM) (o : OpM) : chkP (fun p => appB pre p.1 p.2) o = chkO pre o := rfl
def addP (P : Int × Int → Bool) (o : OpM) : Int × Int → Bool := fun p => P p || (!o.read && (o.key == p.1 && o.value == p.2))
theorem addP_eq (qs : List TxnM) (id : Int) (ab : Bool) (os : List OpM) (o : OpM) (p : Int × Int) : addP (fun p => appB (qs ++ [⟨id, ab, os⟩]) p.1 p.2) o p = appB (qs ++ [⟨id, ab, os ++ [o]⟩]) p.1 p.2 := by
  simp [addP, appB, Bool.or_assoc, Bool.and_assoc]
theorem metop_keep {w w1 : World} {bv n : Nat} {P : Int × Int → Bool} {o : OpM} (hr : o.read = true) (hv : EVals w bv n P) (hb : Below w.heap.size w w1) : Only (fun k => k = bv) w w1 ∧ (chkP P o = 0 → EVals w1 bv (n + 1) (addP P o)) :=
  ⟨Only.of_below hb, fun _ => ((SetAt.keep hv (Only.of_below (S := fun _ => False) hb) (fun q => q)).mono (by omega)).congr (fun p => by simp [addP, hr])⟩
set_option maxRecDepth 20000 in
set_option maxHeartbeats 1000000 in
theorem metop_any (F : Nat → Prop) (o : OpM) (lv : Value) (bi bv n : Nat) (P : Int × Int → Bool) (w : World) (hv : EVals w bv n P) (h : IntsAt F w lv o.list) (hl : o.list.length ≤ 1000000) (w1 : (Lit.int .i64 o.key).wf = true) (w2 : (Lit.int .i64 o.value).wf = true) (hn : n < 1000000) :
    Calls Try.prog 42 #[.agg #[.map (some bi), .map (some bv)], .agg #[.bool o.read, .int .i64 o.key, .int .i64 o.value, lv]] w fun e w' => e = .returned (.int .i64 (chkP P o)) ∧ Only (fun k => k = bv) w w' ∧ (chkP P o = 0 → EVals w' bv (n + 1) (addP P o)) := by
  obtain ⟨a, c, rfl, _, _⟩ := h.shape
  have H := hide h
  have V := hide hv
  have W1 := hide w1
  have W2 := hide w2
  clear h w1 w2 hv
  obtain ⟨b1, hb1⟩ : ∃ b, mayOpB o = b := ⟨_, rfl⟩
  have B1 := hide hb1
  cases b1 with
  | false =>
    have T : Hid (chkP P o = 2) := hide (by unfold chkP; rw [if_pos hb1])
    clear hb1
    go_enter Try.func42, Try.ntmps42
    go_wp2_with (first | (go_at_call 57; (with_reducible refine (opmay_at F o _ _ _ (by first | exact R.out | rfl) (H.out.keep (by repeat (first | exact Below.refl _ _ | refine Below.alloc ?_ (by first | omega | (simp; done) | (simp; omega)) _))) hl W1.out W2.out).mono ?_); rw [B1.out]; rintro e w1 ⟨rfl, hb1⟩; obtain ⟨x1, x2, hb, hz⟩ := two_boxes hb1; have X1 := hide x1; have X2 := hide x2; have HB := hide hb; have m1 : w1.cell? ⟨w.heap.size, 1, none⟩ = some (.map (some bv)) := x1.cell 1 rfl; obtain ⟨⟨d0, d1, d2, d3⟩, -⟩ := x2.four; clear x1 x2 hb hb1))
    go_ret
    exact ⟨by rw [T.out]; rfl, Only.of_below HB.out, fun q => by rw [T.out] at q; cases q⟩
  | true =>
    by_cases hr : o.read = true
    · have T : Hid (chkP P o = 0) := hide (by unfold chkP; rw [if_neg (by simp [hb1]), if_neg (by simp [hr])])
      have R := hide hr
      clear hb1
      go_enter Try.func42, Try.ntmps42
      go_wp2_with (first | (go_at_call 57; (with_reducible refine (opmay_at F o _ _ _ (by first | exact R.out | rfl) (H.out.keep (by repeat (first | exact Below.refl _ _ | refine Below.alloc ?_ (by first | omega | (simp; done) | (simp; omega)) _))) hl W1.out W2.out).mono ?_); rw [B1.out]; rintro e w1 ⟨rfl, hb1⟩; obtain ⟨x1, x2, hb, hz⟩ := two_boxes hb1; have X1 := hide x1; have X2 := hide x2; have HB := hide hb; have m1 : w1.cell? ⟨w.heap.size, 1, none⟩ = some (.map (some bv)) := x1.cell 1 rfl; obtain ⟨⟨d0, d1, d2, d3⟩, -⟩ := x2.four; clear x1 x2 hb hb1))
      go_ret
      exact ⟨by rw [T.out]; rfl, metop_keep R.out V.out HB.out⟩
    have hr' : o.read = false := by simpa using hr
    have R := hide hr'
    obtain ⟨b2, hb2⟩ : ∃ b, P (o.key, o.value) = b := ⟨_, rfl⟩
    have B2 := hide hb2
    have T0 := hide (show chkP P o = if b2 = true then 6 else 0 by unfold chkP; rw [if_neg (by simp [hb1]), hb2]; simp [hr'])
    clear hb1 hb2 hr
    cases b2 with
    | true =>
      have T : Hid (chkP P o = 6) := hide (by rw [T0.out]; rfl)
      clear T0
      go_enter Try.func42, Try.ntmps42
      go_upto_region 5 with (first | (go_at_call 57; (with_reducible refine (opmay_at F o _ _ _ (by first | exact R.out | rfl) (H.out.keep (by repeat (first | exact Below.refl _ _ | refine Below.alloc ?_ (by first | omega | (simp; done) | (simp; omega)) _))) hl W1.out W2.out).mono ?_); rw [B1.out]; rintro e w1 ⟨rfl, hb1⟩; obtain ⟨x1, x2, hb, hz⟩ := two_boxes hb1; have X1 := hide x1; have X2 := hide x2; have HB := hide hb; have m1 : w1.cell? ⟨w.heap.size, 1, none⟩ = some (.map (some bv)) := x1.cell 1 rfl; obtain ⟨⟨d0, d1, d2, d3⟩, -⟩ := x2.four; clear x1 x2 hb hb1))
      have hz0 : w.heap.size < w1.heap.size := by omega
      have L1 := EVals.look (SetAt.keep V.out (Only.of_below (S := fun _ => False) (HB.out.alloc (by have := HB.out.size; omega) (.cells #[.int .i64 o.key, .int .i64 o.value] 114))) (fun q => q)) W1.out W2.out
      rw [B2.out] at L1
      have HB5 := hide (HB.out.alloc (by have := HB.out.size; omega) (.cells #[.int .i64 o.key, .int .i64 o.value] 114))
      go_wp2
      go_ret
      exact ⟨by rw [T.out]; rfl, Only.of_below (HB5.out.alloc (by have := HB5.out.size; omega) _), fun q => by rw [T.out] at q; cases q⟩
    | false =>
      have T : Hid (chkP P o = 0) := hide (by rw [T0.out]; rfl)
      clear T0
      go_enter Try.func42, Try.ntmps42
      go_upto_region 5 with (first | (go_at_call 57; (with_reducible refine (opmay_at F o _ _ _ (by first | exact R.out | rfl) (H.out.keep (by repeat (first | exact Below.refl _ _ | refine Below.alloc ?_ (by first | omega | (simp; done) | (simp; omega)) _))) hl W1.out W2.out).mono ?_); rw [B1.out]; rintro e w1 ⟨rfl, hb1⟩; obtain ⟨x1, x2, hb, hz⟩ := two_boxes hb1; have X1 := hide x1; have X2 := hide x2; have HB := hide hb; have m1 : w1.cell? ⟨w.heap.size, 1, none⟩ = some (.map (some bv)) := x1.cell 1 rfl; obtain ⟨⟨d0, d1, d2, d3⟩, -⟩ := x2.four; clear x1 x2 hb hb1))
      have hz0 : w.heap.size < w1.heap.size := by omega
      have L1 := EVals.look (SetAt.keep V.out (Only.of_below (S := fun _ => False) (HB.out.alloc (by have := HB.out.size; omega) (.cells #[.int .i64 o.key, .int .i64 o.value] 114))) (fun q => q)) W1.out W2.out
      rw [B2.out] at L1
      have HB5 := hide (HB.out.alloc (by have := HB.out.size; omega) (.cells #[.int .i64 o.key, .int .i64 o.value] 114))
      have HB6 := hide (HB5.out.alloc (by have := HB5.out.size; omega) (.cells #[] 83))
      obtain ⟨w6, hput, hv6, ho6⟩ := EVals.store (SetAt.keep V.out (Only.of_below (S := fun _ => False) HB6.out) (fun q => q)) W1.out W2.out hn
      have HO6 := hide ((Only.of_below (S := fun k => k = bv) HB6.out).trans ho6)
      have HV6 : Hid (EVals w6 bv (n + 1) (addP P o)) := hide (SetAt.congr hv6 (fun p => by simp [addP, R.out]))
      clear hv6 ho6
      go_wp2
      go_ret
      exact ⟨by rw [T.out]; rfl, HO6.out, fun _ => HV6.out⟩
end Go.Proofs.Ytigmgkcojifbcaa.Hist
