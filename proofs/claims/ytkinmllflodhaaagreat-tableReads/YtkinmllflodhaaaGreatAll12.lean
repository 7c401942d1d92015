/- Joined out of the texts EncOp, EncSize, EncTxn, EncSizeH, EncCheck, HistFew, in that order. -/
import Derived.Test.YtkinmllflodhaaaGreatAll11
import Derived.Test.YtkinmllflodhaaaGreatAll5
import Derived.Deep.DeepCutAuto
import Derived.Deep.RegionWith
import Derived.Deep.RegionHeld3
import Derived.Deep.DrawnRows
/- Contracts of opMayBe and met.op. -/
namespace Go.Proofs.YtkinmllflodhaaaGreat.Hist
open Go.RowKit Go.Proofs.YtkinmllflodhaaaGreat.Dig Go.Proofs.YtkinmllflodhaaaGreat.Mem Go.Proofs.YtkinmllflodhaaaGreat.Keys
set_option linter.unusedVariables false
set_option linter.unusedSimpArgs false

theorem ints_one {w : World} {b : Nat} {n : Int} (h : Is w b #[.int .i64 n]) (hn : (Lit.int .i64 n).wf = true) : IntsAt (fun k => k = b) w (.slice (some ⟨b, 0, none⟩) 1 1) [n] :=
  ⟨RowAt.block (n := 1) (cs := [[.int .i64 n]]) (by simp) (by simpa using h) (by simp) (by unfold maxLen; omega), by simpa using hn⟩
theorem ints_two {w : World} {b : Nat} {n m : Int} (h : Is w b #[.int .i64 n, .int .i64 m]) (hn : (Lit.int .i64 n).wf = true) (hm : (Lit.int .i64 m).wf = true) : IntsAt (fun k => k = b) w (.slice (some ⟨b, 0, none⟩) 2 2) [n, m] :=
  ⟨RowAt.block (n := 1) (cs := [[.int .i64 n], [.int .i64 m]]) (by simp) (by simpa using h) (by simp) (by unfold maxLen; omega), by simp; exact ⟨hn, hm⟩⟩
theorem maybe1 (n : Int) (b : Nat) (w : World) {r : Bool} (h : Is w b #[.int .i64 n]) (hn : (Lit.int .i64 n).wf = true) (hr : Hid (mayB n = r)) :
    Calls Tryz.prog 80 #[.slice (some ⟨b, 0, none⟩) 1 1] w fun e w' => e = .returned (.bool r) ∧ w' = w := by
  have := maybe_any _ _ [n] w (ints_one h hn) (by simp)
  rw [← hr.out]
  simpa using this
theorem maybe2 (n m : Int) (b : Nat) (w : World) {r : Bool} (h : Is w b #[.int .i64 n, .int .i64 m]) (hn : (Lit.int .i64 n).wf = true) (hm : (Lit.int .i64 m).wf = true) (hr : Hid ((mayB n && mayB m) = r)) :
    Calls Tryz.prog 80 #[.slice (some ⟨b, 0, none⟩) 2 2] w fun e w' => e = .returned (.bool r) ∧ w' = w := by
  have := maybe_any _ _ [n, m] w (ints_two h hn hm) (by simp)
  rw [← hr.out]
  simpa using this
set_option maxHeartbeats 1000000 in
theorem opmay_any (F : Nat → Prop) (o : OpM) (lv : Value) (w : World) (h : IntsAt F w lv o.list) (hl : o.list.length ≤ 1000000) (w1 : (Lit.int .i64 o.key).wf = true) (w2 : (Lit.int .i64 o.value).wf = true) :
    Calls Tryz.prog 91 #[.agg #[.bool o.read, .int .i64 o.key, .int .i64 o.value, lv]] w fun e w' => e = .returned (.bool (mayOpB o)) ∧ Below w.heap.size w w' := by
  obtain ⟨a, c, rfl, _, _⟩ := h.shape
  have H := hide h
  have W1 := hide w1
  have W2 := hide w2
  clear h w1 w2
  by_cases hr : o.read = true
  · have hT : mayOpB o = (mayB o.key && o.list.all mayB && o.value == 0) := by unfold mayOpB; rw [if_pos hr]
    obtain ⟨b1, hb1⟩ : ∃ b, mayB o.key = b := ⟨_, rfl⟩
    have B1 := hide hb1
    cases b1 with
    | false =>
      have T : Hid (mayOpB o = false) := hide (by rw [hT, hb1]; rfl)
      clear hT hb1
      go_enter Tryz.func91, Tryz.ntmps91
      go_wp2_with (first | (go_at_call 80; (with_reducible refine (maybe1 o.key _ _ (Is.made _ _ _ (by first | rfl | simp)) W1.out B1).mono ?_); rintro e w1 ⟨rfl, hq⟩; replace hq := hq.symm; subst hq))
      go_ret
      exact ⟨by rw [T.out]; rfl, by repeat (first | exact Below.refl _ _ | refine Below.alloc ?_ (by first | omega | (simp; done) | (simp; omega)) _)⟩
    | true =>
      obtain ⟨b2, hb2⟩ : ∃ b, o.list.all mayB = b := ⟨_, rfl⟩
      have B2 := hide hb2
      cases b2 with
      | false =>
        have T : Hid (mayOpB o = false) := hide (by rw [hT, hb1, hb2]; rfl)
        clear hT hb1 hb2
        go_enter Tryz.func91, Tryz.ntmps91
        go_wp2_with (first | (go_at_call 80; (with_reducible refine (maybe1 o.key _ _ (Is.made _ _ _ (by first | rfl | simp)) W1.out B1).mono ?_); rintro e w1 ⟨rfl, hq⟩; replace hq := hq.symm; subst hq) | (go_at_call 80; (with_reducible refine (maybe_any F _ o.list _ (H.out.keep (by repeat (first | exact Below.refl _ _ | refine Below.alloc ?_ (by first | omega | (simp; done) | (simp; omega)) _))) hl).mono ?_); rw [B2.out]; rintro e w2 ⟨rfl, hq⟩; replace hq := hq.symm; subst hq))
        go_ret
        exact ⟨by rw [T.out]; rfl, by repeat (first | exact Below.refl _ _ | refine Below.alloc ?_ (by first | omega | (simp; done) | (simp; omega)) _)⟩
      | true =>
        have T : Hid (mayOpB o = (o.value == 0)) := hide (by rw [hT, hb1, hb2]; rfl)
        clear hT hb1 hb2
        go_enter Tryz.func91, Tryz.ntmps91
        go_wp2_with (first | (go_at_call 80; (with_reducible refine (maybe1 o.key _ _ (Is.made _ _ _ (by first | rfl | simp)) W1.out B1).mono ?_); rintro e w1 ⟨rfl, hq⟩; replace hq := hq.symm; subst hq) | (go_at_call 80; (with_reducible refine (maybe_any F _ o.list _ (H.out.keep (by repeat (first | exact Below.refl _ _ | refine Below.alloc ?_ (by first | omega | (simp; done) | (simp; omega)) _))) hl).mono ?_); rw [B2.out]; rintro e w2 ⟨rfl, hq⟩; replace hq := hq.symm; subst hq))
        go_ret
        exact ⟨by rw [T.out]; rfl, by repeat (first | exact Below.refl _ _ | refine Below.alloc ?_ (by first | omega | (simp; done) | (simp; omega)) _)⟩
  · have hr' : o.read = false := by simpa using hr
    have hT : mayOpB o = (mayB o.key && mayB o.value && o.list.length == 0) := by unfold mayOpB; rw [if_neg hr]
    clear hr
    obtain ⟨b1, hb1⟩ : ∃ b, (mayB o.key && mayB o.value) = b := ⟨_, rfl⟩
    have B1 := hide hb1
    cases b1 with
    | false =>
      have T : Hid (mayOpB o = false) := hide (by rw [hT, hb1]; rfl)
      clear hT hb1
      go_enter Tryz.func91, Tryz.ntmps91
      go_wp2_with (first | (go_at_call 80; (with_reducible refine (maybe2 o.key o.value _ _ (Is.made _ _ _ (by first | rfl | simp)) W1.out W2.out B1).mono ?_); rintro e w1 ⟨rfl, hq⟩; replace hq := hq.symm; subst hq))
      go_ret
      exact ⟨by rw [T.out]; rfl, by repeat (first | exact Below.refl _ _ | refine Below.alloc ?_ (by first | omega | (simp; done) | (simp; omega)) _)⟩
    | true =>
      have T : Hid (mayOpB o = ((o.list.length : Int) == 0)) := hide (by rw [hT, hb1, Bool.true_and, Bool.eq_iff_iff]; simp)
      clear hT hb1
      go_enter Tryz.func91, Tryz.ntmps91
      go_wp2_with (first | (go_at_call 80; (with_reducible refine (maybe2 o.key o.value _ _ (Is.made _ _ _ (by first | rfl | simp)) W1.out W2.out B1).mono ?_); rintro e w1 ⟨rfl, hq⟩; replace hq := hq.symm; subst hq))
      go_ret
      exact ⟨by rw [T.out]; rfl, by repeat (first | exact Below.refl _ _ | refine Below.alloc ?_ (by first | omega | (simp; done) | (simp; omega)) _)⟩
theorem opmay_at (F : Nat → Prop) (o : OpM) (rd : Bool) (lv : Value) (w : World) (hrd : o.read = rd) (h : IntsAt F w lv o.list) (hl : o.list.length ≤ 1000000) (w1 : (Lit.int .i64 o.key).wf = true) (w2 : (Lit.int .i64 o.value).wf = true) :
    Calls Tryz.prog 91 #[.agg #[.bool rd, .int .i64 o.key, .int .i64 o.value, lv]] w fun e w' => e = .returned (.bool (mayOpB o)) ∧ Below w.heap.size w w' := by
  subst hrd
  exact opmay_any F o lv w h hl w1 w2
/-- An operation's first error, by a set. -/
def chkP (P : Int × Int → Bool) (o : OpM) : Int := if mayOpB o = false then 2 else if o.read = false ∧ P (o.key, o.value) = true then 6 else 0
theorem chkP_eq (pre : List TxnM) (o : OpM) : chkP (fun p => appB pre p.1 p.2) o = chkO pre o := rfl
def addP (P : Int × Int → Bool) (o : OpM) : Int × Int → Bool := fun p => P p || (!o.read && (o.key == p.1 && o.value == p.2))
theorem addP_eq (qs : List TxnM) (id : Int) (ab : Bool) (os : List OpM) (o : OpM) (p : Int × Int) : addP (fun p => appB (qs ++ [⟨id, ab, os⟩]) p.1 p.2) o p = appB (qs ++ [⟨id, ab, os ++ [o]⟩]) p.1 p.2 := by
  simp [addP, appB, Bool.or_assoc, Bool.and_assoc]
theorem metop_keep {w w1 : World} {bv n : Nat} {P : Int × Int → Bool} {o : OpM} (hr : o.read = true) (hv : EVals w bv n P) (hb : Below w.heap.size w w1) : Only (fun k => k = bv) w w1 ∧ (chkP P o = 0 → EVals w1 bv (n + 1) (addP P o)) :=
  ⟨Only.of_below hb, fun _ => ((SetAt.keep hv (Only.of_below (S := fun _ => False) hb) (fun q => q)).mono (by omega)).congr (fun p => by simp [addP, hr])⟩
set_option maxRecDepth 20000 in
set_option maxHeartbeats 1000000 in
theorem metop_any (F : Nat → Prop) (o : OpM) (lv : Value) (bi bv n : Nat) (P : Int × Int → Bool) (w : World) (hv : EVals w bv n P) (h : IntsAt F w lv o.list) (hl : o.list.length ≤ 1000000) (w1 : (Lit.int .i64 o.key).wf = true) (w2 : (Lit.int .i64 o.value).wf = true) (hn : n < 1000000) :
    Calls Tryz.prog 81 #[.agg #[.map (some bi), .map (some bv)], .agg #[.bool o.read, .int .i64 o.key, .int .i64 o.value, lv]] w fun e w' => e = .returned (.int .i64 (chkP P o)) ∧ Only (fun k => k = bv) w w' ∧ (chkP P o = 0 → EVals w' bv (n + 1) (addP P o)) := by
  obtain ⟨a, c, rfl, _, _⟩ := h.shape
  have H := hide h
  have V := hide hv
  have W1 := hide w1
  have W2 := hide w2
  clear h w1 w2 hv
  obtain ⟨b1, hb1⟩ : ∃ b, mayOpB o = b := ⟨_, rfl⟩
  have B1 := hide hb1
  cases b1 with
  | false =>
    have T : Hid (chkP P o = 2) := hide (by unfold chkP; rw [if_pos hb1])
    clear hb1
    go_enter Tryz.func81, Tryz.ntmps81
    go_wp2_with (first | (go_at_call 91; (with_reducible refine (opmay_at F o _ _ _ (by first | exact R.out | rfl) (H.out.keep (by repeat (first | exact Below.refl _ _ | refine Below.alloc ?_ (by first | omega | (simp; done) | (simp; omega)) _))) hl W1.out W2.out).mono ?_); rw [B1.out]; rintro e w1 ⟨rfl, hb1⟩; obtain ⟨x1, x2, hb, hz⟩ := two_boxes hb1; have X1 := hide x1; have X2 := hide x2; have HB := hide hb; have m1 : w1.cell? ⟨w.heap.size, 1, none⟩ = some (.map (some bv)) := x1.cell 1 rfl; obtain ⟨⟨d0, d1, d2, d3⟩, -⟩ := x2.four; clear x1 x2 hb hb1))
    go_ret
    exact ⟨by rw [T.out]; rfl, Only.of_below HB.out, fun q => by rw [T.out] at q; cases q⟩
  | true =>
    by_cases hr : o.read = true
    · have T : Hid (chkP P o = 0) := hide (by unfold chkP; rw [if_neg (by simp [hb1]), if_neg (by simp [hr])])
      have R := hide hr
      clear hb1
      go_enter Tryz.func81, Tryz.ntmps81
      go_wp2_with (first | (go_at_call 91; (with_reducible refine (opmay_at F o _ _ _ (by first | exact R.out | rfl) (H.out.keep (by repeat (first | exact Below.refl _ _ | refine Below.alloc ?_ (by first | omega | (simp; done) | (simp; omega)) _))) hl W1.out W2.out).mono ?_); rw [B1.out]; rintro e w1 ⟨rfl, hb1⟩; obtain ⟨x1, x2, hb, hz⟩ := two_boxes hb1; have X1 := hide x1; have X2 := hide x2; have HB := hide hb; have m1 : w1.cell? ⟨w.heap.size, 1, none⟩ = some (.map (some bv)) := x1.cell 1 rfl; obtain ⟨⟨d0, d1, d2, d3⟩, -⟩ := x2.four; clear x1 x2 hb hb1))
      go_ret
      exact ⟨by rw [T.out]; rfl, metop_keep R.out V.out HB.out⟩
    have hr' : o.read = false := by simpa using hr
    have R := hide hr'
    obtain ⟨b2, hb2⟩ : ∃ b, P (o.key, o.value) = b := ⟨_, rfl⟩
    have B2 := hide hb2
    have T0 := hide (show chkP P o = if b2 = true then 6 else 0 by unfold chkP; rw [if_neg (by simp [hb1]), hb2]; simp [hr'])
    clear hb1 hb2 hr
    cases b2 with
    | true =>
      have T : Hid (chkP P o = 6) := hide (by rw [T0.out]; rfl)
      clear T0
      go_enter Tryz.func81, Tryz.ntmps81
      go_upto_region 5 with (first | (go_at_call 91; (with_reducible refine (opmay_at F o _ _ _ (by first | exact R.out | rfl) (H.out.keep (by repeat (first | exact Below.refl _ _ | refine Below.alloc ?_ (by first | omega | (simp; done) | (simp; omega)) _))) hl W1.out W2.out).mono ?_); rw [B1.out]; rintro e w1 ⟨rfl, hb1⟩; obtain ⟨x1, x2, hb, hz⟩ := two_boxes hb1; have X1 := hide x1; have X2 := hide x2; have HB := hide hb; have m1 : w1.cell? ⟨w.heap.size, 1, none⟩ = some (.map (some bv)) := x1.cell 1 rfl; obtain ⟨⟨d0, d1, d2, d3⟩, -⟩ := x2.four; clear x1 x2 hb hb1))
      have hz0 : w.heap.size < w1.heap.size := by omega
      have L1 := EVals.look (SetAt.keep V.out (Only.of_below (S := fun _ => False) (HB.out.alloc (by have := HB.out.size; omega) (.cells #[.int .i64 o.key, .int .i64 o.value] 156))) (fun q => q)) W1.out W2.out
      rw [B2.out] at L1
      have HB5 := hide (HB.out.alloc (by have := HB.out.size; omega) (.cells #[.int .i64 o.key, .int .i64 o.value] 156))
      go_wp2
      go_ret
      exact ⟨by rw [T.out]; rfl, Only.of_below (HB5.out.alloc (by have := HB5.out.size; omega) _), fun q => by rw [T.out] at q; cases q⟩
    | false =>
      have T : Hid (chkP P o = 0) := hide (by rw [T0.out]; rfl)
      clear T0
      go_enter Tryz.func81, Tryz.ntmps81
      go_upto_region 5 with (first | (go_at_call 91; (with_reducible refine (opmay_at F o _ _ _ (by first | exact R.out | rfl) (H.out.keep (by repeat (first | exact Below.refl _ _ | refine Below.alloc ?_ (by first | omega | (simp; done) | (simp; omega)) _))) hl W1.out W2.out).mono ?_); rw [B1.out]; rintro e w1 ⟨rfl, hb1⟩; obtain ⟨x1, x2, hb, hz⟩ := two_boxes hb1; have X1 := hide x1; have X2 := hide x2; have HB := hide hb; have m1 : w1.cell? ⟨w.heap.size, 1, none⟩ = some (.map (some bv)) := x1.cell 1 rfl; obtain ⟨⟨d0, d1, d2, d3⟩, -⟩ := x2.four; clear x1 x2 hb hb1))
      have hz0 : w.heap.size < w1.heap.size := by omega
      have L1 := EVals.look (SetAt.keep V.out (Only.of_below (S := fun _ => False) (HB.out.alloc (by have := HB.out.size; omega) (.cells #[.int .i64 o.key, .int .i64 o.value] 156))) (fun q => q)) W1.out W2.out
      rw [B2.out] at L1
      have HB5 := hide (HB.out.alloc (by have := HB.out.size; omega) (.cells #[.int .i64 o.key, .int .i64 o.value] 156))
      have HB6 := hide (HB5.out.alloc (by have := HB5.out.size; omega) (.cells #[] 138))
      obtain ⟨w6, hput, hv6, ho6⟩ := EVals.store (SetAt.keep V.out (Only.of_below (S := fun _ => False) HB6.out) (fun q => q)) W1.out W2.out hn
      have HO6 := hide ((Only.of_below (S := fun k => k = bv) HB6.out).trans ho6)
      have HV6 : Hid (EVals w6 bv (n + 1) (addP P o)) := hide (SetAt.congr hv6 (fun p => by simp [addP, R.out]))
      clear hv6 ho6
      go_wp2
      go_ret
      exact ⟨by rw [T.out]; rfl, HO6.out, fun _ => HV6.out⟩
end Go.Proofs.YtkinmllflodhaaaGreat.Hist

/- Contracts of opSize and size. -/
namespace Go.Proofs.YtkinmllflodhaaaGreat.Hist
open Go.RowKit Go.Proofs.YtkinmllflodhaaaGreat.Dig Go.Proofs.YtkinmllflodhaaaGreat.Mem Go.Proofs.YtkinmllflodhaaaGreat.Keys
set_option linter.unusedVariables false
set_option linter.unusedSimpArgs false

theorem sizeN_cons (x : Int) (l : List Int) : sizeN (x :: l) = (txt x.toNat).length + 1 + sizeN l := by simp [sizeN]
theorem flat8_len : ∀ l : List Int, (flat8 l).length = sizeN l
  | [] => rfl
  | x :: l => by
    have := flat8_len l
    simp only [flat8, sizeN, List.map_cons, List.flatten_cons, List.length_append, List.length_cons, List.sum_cons] at *
    omega
def sizeO (o : OpM) : Nat := if o.read = true then 2 + sizeN [o.key] + sizeN o.list else 2 + sizeN [o.key, o.value]
theorem sizeO_len (o : OpM) : (lineO8 o).length = sizeO o := by
  unfold lineO8 sizeO
  split
  · have := flat8_len o.list
    simp [sizeN_cons] at *
    rw [this]
    simp [sizeN]
    omega
  · simp [sizeN]
    omega
def sizeT (t : TxnM) : Nat := 2 + sizeN [t.id] + 2 + (t.ops.map sizeO).sum
theorem sizeT_len (t : TxnM) : (textT8 t).length = sizeT t := by
  have h : ∀ os : List OpM, (os.map lineO8).flatten.length = (os.map sizeO).sum := by
    intro os
    induction os with
    | nil => rfl
    | cons o os ih => simp [ih, sizeO_len]
  unfold textT8 sizeT
  rw [List.length_append, h]
  simp [lineT8, sizeN]
  omega
def sizeH (ts : List TxnM) : Nat := (ts.map sizeT).sum
theorem sizeH_len : ∀ ts : List TxnM, (textH8 ts).length = sizeH ts
  | [] => rfl
  | t :: ts => by
    have ih := sizeH_len ts
    simp only [textH8, sizeH, List.map_cons, List.flatten_cons, List.length_append, List.sum_cons, sizeT_len] at *
    rw [ih]
theorem textH8_take {ts : List TxnM} {k : Nat} (h : k < ts.length) : textH8 (ts.take (k + 1)) = textH8 (ts.take k) ++ textT8 ts[k] := by
  unfold textH8
  rw [List.take_succ_eq_append_getElem h, List.map_append, List.flatten_append]; simp
theorem linesO_take {os : List OpM} {k : Nat} (h : k < os.length) : ((os.take (k + 1)).map lineO8).flatten = ((os.take k).map lineO8).flatten ++ lineO8 os[k] := by
  rw [List.take_succ_eq_append_getElem h, List.map_append, List.flatten_append]; simp
theorem flat8_take {l : List Int} {k : Nat} (h : k < l.length) : flat8 (l.take (k + 1)) = flat8 (l.take k) ++ 32 :: txt l[k].toNat := by
  unfold flat8
  rw [List.take_succ_eq_append_getElem h, List.map_append, List.flatten_append]; simp
theorem linesO_len : ∀ os : List OpM, (os.map lineO8).flatten.length = (os.map sizeO).sum
  | [] => rfl
  | o :: os => by simp [linesO_len os, sizeO_len]
theorem nsize1 (n : Int) (b : Nat) (w : World) (h : Is w b #[.int .i64 n]) (hn : mayN n) :
    Calls Tryz.prog 82 #[.slice (some ⟨b, 0, none⟩) 1 1] w fun e w' => e = .returned (.int .i64 (sizeN [n] : Int)) ∧ w' = w :=
  nsize_any _ _ [n] w (ints_one h (wf_of_i64 hn.1 (by have := hn.2; omega))) (by simp) (by simpa using hn)
theorem nsize2 (n m : Int) (b : Nat) (w : World) (h : Is w b #[.int .i64 n, .int .i64 m]) (hn : mayN n) (hm : mayN m) :
    Calls Tryz.prog 82 #[.slice (some ⟨b, 0, none⟩) 2 2] w fun e w' => e = .returned (.int .i64 (sizeN [n, m] : Int)) ∧ w' = w :=
  nsize_any _ _ [n, m] w (ints_two h (wf_of_i64 hn.1 (by have := hn.2; omega)) (wf_of_i64 hm.1 (by have := hm.2; omega))) (by simp) (by simp; exact ⟨hn, hm⟩)
set_option maxHeartbeats 1000000 in
theorem opsize_any (F : Nat → Prop) (o : OpM) (lv : Value) (w : World) (h : IntsAt F w lv o.list) (hl : o.list.length ≤ 1000000) (hm : mayOpB o = true) :
    Calls Tryz.prog 83 #[.agg #[.bool o.read, .int .i64 o.key, .int .i64 o.value, lv]] w fun e w' => e = .returned (.int .i64 (sizeO o : Int)) ∧ Below w.heap.size w w' := by
  obtain ⟨a, c, rfl, _, _⟩ := h.shape
  have H := hide h
  clear h
  by_cases hr : o.read = true
  · obtain ⟨k1, k3, k0⟩ := mayOp_read hm hr
    have K1 := hide k1
    have K3 := hide k3
    obtain ⟨s1, h1⟩ : ∃ s, sizeN [o.key] = s := ⟨_, rfl⟩
    obtain ⟨s2, h2⟩ : ∃ s, sizeN o.list = s := ⟨_, rfl⟩
    have b1 := sizeN_le [o.key]
    have b2 := sizeN_le o.list
    rw [h1] at b1
    rw [h2] at b2
    simp at b1
    have T : Hid (sizeO o = 2 + s1 + s2) := hide (by unfold sizeO; rw [if_pos hr, h1, h2])
    have E1 := hide h1
    have E2 := hide h2
    clear h1 h2 k1 k3 k0 hm
    have q1 : IntKind.i64.wrap (2 + (s1 : Int)) = 2 + (s1 : Int) := by rw [IntKind.wrap_i64]; omega
    have q2 : IntKind.i64.wrap (2 + (s1 : Int) + (s2 : Int)) = 2 + (s1 : Int) + (s2 : Int) := by rw [IntKind.wrap_i64]; omega
    have Q1 := hide q1
    have Q2 := hide q2
    clear q1 q2
    go_enter Tryz.func83, Tryz.ntmps83
    go_upto_region 2 with fail
    go_region_with (first | (go_at_call 82; (with_reducible refine (nsize1 o.key _ _ (by first | exact Is.made _ _ _ (by first | rfl | simp) | exact Is.drew (Is.made _ _ _ (by first | rfl | simp)) | exact Is.drewN (Is.made _ _ _ (by first | rfl | simp)) _) K1.out).mono ?_); rw [E1.out]; rintro e w1 ⟨rfl, hq⟩; replace hq := hq.symm; subst hq) | (go_at_call 82; (with_reducible refine (nsize_any F _ o.list _ (H.out.keep (by repeat (first | exact Below.refl _ _ | refine Below.drew ?_ | refine Below.drewN ?_ _ | refine Below.alloc ?_ (by first | omega | (simp; done) | (simp; omega)) _))) hl K3.out).mono ?_); rw [E2.out]; rintro e w2 ⟨rfl, hq⟩; replace hq := hq.symm; subst hq))
    all_goals
      go_simp
      go_wp2
      go_ret
      exact ⟨by rw [Q1.out, Q2.out, T.out]; push_cast; rfl, (by repeat (first | exact Below.refl _ _ | refine Below.drew ?_ | refine Below.drewN ?_ _ | refine Below.alloc ?_ (by first | omega | (simp; done) | (simp; omega)) _))⟩
  · have hr' : o.read = false := by simpa using hr
    obtain ⟨k1, k2, k3⟩ := mayOp_app hm hr'
    have K1 := hide k1
    have K2 := hide k2
    obtain ⟨s1, h1⟩ : ∃ s, sizeN [o.key, o.value] = s := ⟨_, rfl⟩
    have b1 := sizeN_le [o.key, o.value]
    rw [h1] at b1
    simp at b1
    have T : Hid (sizeO o = 2 + s1) := hide (by unfold sizeO; rw [if_neg hr, h1])
    have E1 := hide h1
    clear h1 k1 k2 k3 hm hr
    go_enter Tryz.func83, Tryz.ntmps83
    go_wp2_with (first | (go_at_call 82; (with_reducible refine (nsize2 o.key o.value _ _ (by first | exact Is.made _ _ _ (by first | rfl | simp) | exact Is.drew (Is.made _ _ _ (by first | rfl | simp)) | exact Is.drewN (Is.made _ _ _ (by first | rfl | simp)) _) K1.out K2.out).mono ?_); rw [E1.out]; rintro e w1 ⟨rfl, hq⟩; replace hq := hq.symm; subst hq))
    go_ret
    exact ⟨by rw [T.out]; go_num, (by repeat (first | exact Below.refl _ _ | refine Below.drew ?_ | refine Below.drewN ?_ _ | refine Below.alloc ?_ (by first | omega | (simp; done) | (simp; omega)) _))⟩
end Go.Proofs.YtkinmllflodhaaaGreat.Hist

/- The contract of met.txn. -/
namespace Go.Proofs.YtkinmllflodhaaaGreat.Hist
open Go.RowKit Go.Proofs.YtkinmllflodhaaaGreat.Dig Go.Proofs.YtkinmllflodhaaaGreat.Mem Go.Proofs.YtkinmllflodhaaaGreat.Keys
set_option linter.unusedVariables false
set_option linter.unusedSimpArgs false

theorem twinB_snoc (pre : List TxnM) (t : TxnM) (y : Int) : twinB (pre ++ [t]) y = (twinB pre y || t.id == y) := by simp [twinB]
theorem appB_snoc_nil (pre : List TxnM) (id : Int) (ab : Bool) (k v : Int) : appB (pre ++ [⟨id, ab, []⟩]) k v = appB pre k v := by simp [appB]
def OpsFew' (os : List OpM) : Prop := os.length ≤ 100000 ∧ ∀ o ∈ os, o.list.length ≤ 1000000
theorem OpsFew'.at {os : List OpM} (h : OpsFew' os) {j : Nat} (hj : j < os.length) : os[j].list.length ≤ 1000000 := h.2 _ (List.getElem_mem hj)
/-- The sets, and the box that names them, behind the transactions pre and so many operations. -/
structure MetS (w : World) (bi bv mb ni nv : Nat) (pre : List TxnM) (wr : World) : Prop where
  only : Only (fun k => k = bi ∨ k = bv) w wr
  ids : Ids wr bi ni (fun y => twinB pre y)
  vals : EVals wr bv nv (fun p => appB pre p.1 p.2)
  box : Is wr mb #[.map (some bi), .map (some bv)]
def TxRel (w : World) (bi bv ni nv : Nat) (pre : List TxnM) (t : TxnM) (i : Value) (wr : World) : Prop :=
  ∃ j : Nat, j ≤ t.ops.length ∧ i = .int .i64 (j : Int) ∧ Hid (chkOs (pre ++ [⟨t.id, t.ab, []⟩]) (t.ops.take j) = 0) ∧ Hid (MetS w bi bv w.heap.size (ni + 1) (nv + j) (pre ++ [⟨t.id, t.ab, t.ops.take j⟩]) wr)
theorem MetS.next {w wr w7 : World} {bi bv mb ni nv : Nat} {pre : List TxnM} {id : Int} {ab : Bool} {os : List OpM} {o : OpM} {T : TypeId} {C : Array Value} (h : MetS w bi bv mb ni nv (pre ++ [⟨id, ab, os⟩]) wr) (hne : bi ≠ bv) (hmb : mb ≠ bv)
    (ho : Only (fun k => k = bv) (wr.alloc (.cells C T)) w7) (hv : EVals w7 bv (nv + 1) (addP (fun p => appB (pre ++ [⟨id, ab, os⟩]) p.1 p.2) o)) : MetS w bi bv mb ni (nv + 1) (pre ++ [⟨id, ab, os ++ [o]⟩]) w7 := by
  have h1 : Only (fun k => k = bv) wr w7 := (Only.of_below (S := fun k => k = bv) ((Below.refl _ _).alloc (Nat.le_refl _) (.cells C T))).trans ho
  exact ⟨h.only.trans (h1.mono fun _ q => .inr q), (SetAt.keep h.ids h1 hne).congr (fun y => by simp [twinB]), SetAt.congr hv (fun p => (addP_eq pre id ab os o p).symm), h.box.keep h1 hmb⟩
theorem MetS.world {w wr : World} {bi bv mb ni nv : Nat} {pre : List TxnM} (h : MetS w bi bv mb ni nv pre wr) : Only (fun k => k = bi ∨ k = bv) w wr := h.only
theorem only_three {S : Nat → Prop} {w : World} (c d e : Array Value) (T U V : TypeId) : Only S w (((w.alloc (.cells c T)).alloc (.cells d U)).alloc (.cells e V)) := (((Only.refl S w).alloc _).alloc _).alloc _
set_option maxRecDepth 20000 in
set_option maxHeartbeats 1000000 in
theorem mettxn_any (F : Nat → Prop) (t : TxnM) (ov : Value) (bi bv ni nv : Nat) (pre : List TxnM) (w : World) (hi : Ids w bi ni (fun y => twinB pre y)) (hv : EVals w bv nv (fun p => appB pre p.1 p.2)) (hne : bi ≠ bv) (h : OpsAt F w ov t.ops) (hF : ∀ b, F b → b ≠ bi ∧ b ≠ bv)
    (hf : OpsFew' t.ops) (hid : (Lit.int .i64 t.id).wf = true) (hni : ni < 100000) (hnv : nv + t.ops.length < 1000000) :
    Calls Tryz.prog 61 #[.agg #[.map (some bi), .map (some bv)], .agg #[.int .i64 t.id, .bool t.ab, ov]] w fun e w' => e = .returned (.int .i64 (chkT pre t)) ∧ Only (fun k => k = bi ∨ k = bv) w w' ∧
      (chkT pre t = 0 → Ids w' bi (ni + 1) (fun y => twinB (pre ++ [t]) y) ∧ EVals w' bv (nv + t.ops.length) (fun p => appB (pre ++ [t]) p.1 p.2)) := by
  obtain ⟨a, c, rfl, _, _⟩ := h.shape
  have H := hide h
  have VI := hide hi
  have VV := hide hv
  have W1 := hide hid
  have FF := hide hF
  have FW := hide hf
  have hlen := hf.1
  have hbi := SetAt.lt hi
  have hbv := SetAt.lt hv
  clear h hi hv hid hF hf
  obtain ⟨b1, hb1⟩ : ∃ b, mayB t.id = b := ⟨_, rfl⟩
  have B1 := hide hb1
  cases b1 with
  | false =>
    have T : Hid (chkT pre t = 2) := hide (by unfold chkT; rw [if_pos hb1])
    clear hb1
    go_enter Tryz.func61, Tryz.ntmps61
    go_wp2_with (first | (go_at_call 80; (with_reducible refine (maybe1 t.id _ _ (Is.made _ _ _ (by first | rfl | simp)) W1.out B1).mono ?_); rintro e w1 ⟨rfl, hq⟩; replace hq := hq.symm; subst hq))
    go_ret
    exact ⟨by rw [T.out]; rfl, only_three _ _ _ _ _ _, fun q => by rw [T.out] at q; cases q⟩
  | true =>
  obtain ⟨b2, hb2⟩ : ∃ b, twinB pre t.id = b := ⟨_, rfl⟩
  have B2 := hide hb2
  have HO3 := fun (C D : Array Value) => only_three (S := fun _ => False) (w := w) C D #[.int .i64 t.id] 124 55 3
  cases b2 with
  | true =>
    have T : Hid (chkT pre t = 5) := hide (by unfold chkT; rw [if_neg (by simp [hb1]), if_pos hb2])
    clear hb1 hb2
    have L1 := Ids.look (SetAt.keep VI.out (HO3 #[.map (some bi), .map (some bv)] #[.int .i64 t.id, .bool t.ab, .slice a t.ops.length c]) (fun q => q)) W1.out
    rw [B2.out] at L1
    clear HO3
    go_enter Tryz.func61, Tryz.ntmps61
    go_wp2_with (first | (go_at_call 80; (with_reducible refine (maybe1 t.id _ _ (Is.made _ _ _ (by first | rfl | simp)) W1.out B1).mono ?_); rintro e w1 ⟨rfl, hq⟩; replace hq := hq.symm; subst hq))
    go_ret
    exact ⟨by rw [T.out]; rfl, (only_three _ _ _ _ _ _).alloc _, fun q => by rw [T.out] at q; cases q⟩
  | false =>
    have T : Hid (chkT pre t = chkOs (pre ++ [⟨t.id, t.ab, []⟩]) t.ops) := hide (by unfold chkT; rw [if_neg (by simp [hb1]), if_neg (by simp [hb2])])
    clear hb1 hb2
    have L1 := Ids.look (SetAt.keep VI.out (HO3 #[.map (some bi), .map (some bv)] #[.int .i64 t.id, .bool t.ab, .slice a t.ops.length c]) (fun q => q)) W1.out
    rw [B2.out] at L1
    have ho5 := (HO3 #[.map (some bi), .map (some bv)] #[.int .i64 t.id, .bool t.ab, .slice a t.ops.length c]).alloc (.cells #[] 138)
    obtain ⟨w6, hput, hi6, ho6⟩ := Ids.store (SetAt.keep VI.out ho5 (fun q => q)) W1.out (show ni < 1000000 by omega)
    have x1 : Is w6 w.heap.size #[.map (some bi), .map (some bv)] := (((Is.made w #[.map (some bi), .map (some bv)] 124 rfl).alloc _).alloc _).alloc (.cells #[] 138) |>.keep ho6 (by omega)
    have x2 : Is w6 (w.heap.size + 1) #[.int .i64 t.id, .bool t.ab, .slice a t.ops.length c] := (((Is.made (w.alloc (.cells #[.map (some bi), .map (some bv)] 124)) #[.int .i64 t.id, .bool t.ab, .slice a t.ops.length c] 55 (by simp)).alloc _).alloc (.cells #[] 138)).keep ho6 (by omega)
    have d2 : w6.cell? ⟨w.heap.size + 1, 2, none⟩ = some (.slice a t.ops.length c) := x2.cell 2 rfl
    have hz6 := x2.lt
    have M6 : Hid (MetS w bi bv w.heap.size (ni + 1) (nv + 0) (pre ++ [⟨t.id, t.ab, t.ops.take 0⟩]) w6) := hide ⟨(ho5.mono fun _ q => q.elim).trans (ho6.mono fun _ q => .inl q), SetAt.congr hi6 (fun y => by simp [twinB]), ((SetAt.keep VV.out ho5 (fun q => q)).keep ho6 (Ne.symm hne)).congr (fun p => by simp [appB]), x1⟩
    clear HO3 hi6 ho6 ho5 x1 x2
    go_enter Tryz.func61, Tryz.ntmps61
    go_wp2_with (first | (go_at_call 80; (with_reducible refine (maybe1 t.id _ _ (Is.made _ _ _ (by first | rfl | simp)) W1.out B1).mono ?_); rintro e w1 ⟨rfl, hq⟩; replace hq := hq.symm; subst hq))
    go_loopw [32] (fun i wr => TxRel w bi bv ni nv pre t i wr) (fun i _ => t.ops.length - (intOf i).toNat)
    case atStart => exact ⟨0, by omega, rfl, hide rfl, M6⟩
    case round =>
      obtain ⟨j, hj, rfl, hc0, hM⟩ := hrel
      by_cases hlt : j < t.ops.length
      · have hol := FW.out.at hlt
        have HR := hide (H.out.only hM.out.only (fun b q => by have := FF.out b q; omega))
        obtain ⟨b1, o1, l1, q1, rfl, hf1, hb1, c0, c1, c2, c3, hi1, wk, wv⟩ := HR.out.at hlt
        have HI := hide (hi1.keep ((Below.refl wr.heap.size wr).alloc (Nat.le_refl _) (.cells #[.bool t.ops[j].read, .int .i64 t.ops[j].key, .int .i64 t.ops[j].value, .slice l1 t.ops[j].list.length q1] 57)))
        have HV := hide (EVals.keep hM.out.vals (Only.of_below (S := fun _ => False) ((Below.refl wr.heap.size wr).alloc (Nat.le_refl _) (.cells #[.bool t.ops[j].read, .int .i64 t.ops[j].key, .int .i64 t.ops[j].value, .slice l1 t.ops[j].list.length q1] 57))) (fun q => q))
        have m0 : wr.cell? ⟨w.heap.size, 0, none⟩ = some (.map (some bi)) := hM.out.box.cell 0 rfl
        have m1 : wr.cell? ⟨w.heap.size, 1, none⟩ = some (.map (some bv)) := hM.out.box.cell 1 rfl
        have hz : w.heap.size < wr.heap.size := hM.out.box.lt
        have hnj : nv + j < 1000000 := by omega
        have hmb : w.heap.size ≠ bv := by omega
        have WK := hide wk
        have WV := hide wv
        clear hi1 wk wv
        have HT : Hid (chkOs (pre ++ [⟨t.id, t.ab, []⟩]) (t.ops.take (j + 1)) = chkO (pre ++ [⟨t.id, t.ab, t.ops.take j⟩]) t.ops[j]) := hide (chkOs_next hlt hc0.out)
        obtain ⟨e, he⟩ : ∃ e, chkO (pre ++ [⟨t.id, t.ab, t.ops.take j⟩]) t.ops[j] = e := ⟨_, rfl⟩
        have HE := hide he
        by_cases e0 : e = 0
        · subst e0
          clear he
          go_wp2_with (first | (go_at_call 81; go_must ((with_reducible refine (metop_any F t.ops[j] _ bi bv (nv + j) _ _ HV.out HI.out hol WK.out WV.out hnj).mono ?_); rw [chkP_eq, HE.out]; rintro e' w7 ⟨rfl, ho7, hv7⟩; have M7 := MetS.next hM.out hne hmb ho7 (hv7 rfl); replace M7 := hide M7; clear ho7 hv7)))
          go_roundw
          case rel => exact ⟨j + 1, by omega, by go_num, hide (HT.out.trans HE.out), by rw [List.take_succ_eq_append_getElem hlt]; exact M7⟩
          case measure => simp [intOf]; omega
        · have e1 : (e != 0) = true := by simpa using e0
          have TE : Hid (chkT pre t = e) := hide (by rw [T.out]; exact chkOs_stop (HT.out.trans he) e0)
          have HN0 := hide e0
          clear he e0
          go_wp2_with (first | (go_at_call 81; go_must ((with_reducible refine (metop_any F t.ops[j] _ bi bv (nv + j) _ _ HV.out HI.out hol WK.out WV.out hnj).mono ?_); rw [chkP_eq, HE.out]; rintro e' w7 ⟨rfl, ho7, hv7⟩; have O7 := hide (hM.out.only.trans ((((Only.refl (fun _ => False) wr).alloc _).mono (fun _ q => q.elim)).trans (ho7.mono fun _ q => .inr q))); clear ho7 hv7)))
          go_ret
          exact ⟨by rw [TE.out]; rfl, O7.out, fun q => by rw [TE.out] at q; exact absurd q HN0.out⟩
      · have e : j = t.ops.length := by omega
        subst e
        have TE : Hid (chkT pre t = 0) := hide (by rw [T.out]; have := hc0.out; rwa [List.take_length] at this)
        have M8 := hM.out
        rw [List.take_length] at M8
        have HM8 := hide M8
        clear M8
        go_wp2
        go_ret
        exact ⟨by rw [TE.out]; rfl, HM8.out.only, fun _ => ⟨HM8.out.ids, HM8.out.vals⟩⟩
end Go.Proofs.YtkinmllflodhaaaGreat.Hist

/- The contract of size. -/
namespace Go.Proofs.YtkinmllflodhaaaGreat.Hist
open Go.RowKit Go.Proofs.YtkinmllflodhaaaGreat.Dig Go.Proofs.YtkinmllflodhaaaGreat.Mem Go.Proofs.YtkinmllflodhaaaGreat.Keys
set_option linter.unusedVariables false
set_option linter.unusedSimpArgs false

/-- Few enough lists for a sum. -/
def Few4 (ts : List TxnM) : Prop := ts.length ≤ 5000 ∧ opsN ts ≤ 5000 ∧ ∀ t ∈ ts, OpsFew' t.ops
theorem sizeO_le (o : OpM) (h : o.list.length ≤ 1000000) : sizeO o ≤ 11000100 := by
  unfold sizeO
  have := sizeN_le o.list
  have := sizeN_le [o.key]
  have := sizeN_le [o.key, o.value]
  simp at *
  split <;> omega
theorem sizeOs_le : ∀ (os : List OpM), (∀ o ∈ os, o.list.length ≤ 1000000) → (os.map sizeO).sum ≤ 11000100 * os.length
  | [], _ => by simp
  | o :: os, h => by
    have h1 := sizeO_le o (h o List.mem_cons_self)
    have h2 := sizeOs_le os (fun p hp => h p (List.mem_cons_of_mem _ hp))
    simp only [List.map_cons, List.sum_cons, List.length_cons]
    omega
theorem sizeH_le : ∀ (ts : List TxnM), (∀ t ∈ ts, ∀ o ∈ t.ops, o.list.length ≤ 1000000) → sizeH ts ≤ 15 * ts.length + 11000100 * opsN ts
  | [], _ => by simp [sizeH]
  | t :: ts, h => by
    have h1 := sizeOs_le t.ops (h t List.mem_cons_self)
    have h2 := sizeH_le ts (fun u hu => h u (List.mem_cons_of_mem _ hu))
    have h3 := sizeN_le [t.id]
    have h4 : opsN (t :: ts) = t.ops.length + opsN ts := by simp [opsN]
    rw [h4]
    simp only [sizeH, List.map_cons, List.sum_cons, List.length_cons, sizeT] at *
    simp at h3
    omega
theorem sizeH_take {ts : List TxnM} {k : Nat} (h : k < ts.length) : sizeH (ts.take (k + 1)) = sizeH (ts.take k) + sizeT ts[k] := by
  unfold sizeH
  rw [List.take_succ_eq_append_getElem h, List.map_append, List.sum_append]; simp
theorem sizeH_split (ts : List TxnM) (k : Nat) : sizeH (ts.take k) ≤ sizeH ts := by
  have h : ts.take k ++ ts.drop k = ts := List.take_append_drop k ts
  have e : sizeH ts = sizeH (ts.take k) + sizeH (ts.drop k) := by
    conv => lhs; rw [← h]
    simp only [sizeH, List.map_append, List.sum_append]
  omega
theorem sizeOs_take {os : List OpM} {k : Nat} (h : k < os.length) : ((os.take (k + 1)).map sizeO).sum = ((os.take k).map sizeO).sum + sizeO os[k] := by
  rw [List.take_succ_eq_append_getElem h, List.map_append, List.sum_append]; simp
theorem sizeOs_split (os : List OpM) (k : Nat) : ((os.take k).map sizeO).sum ≤ (os.map sizeO).sum := by
  have h : os.take k ++ os.drop k = os := List.take_append_drop k os
  have e : (os.map sizeO).sum = ((os.take k).map sizeO).sum + ((os.drop k).map sizeO).sum := by
    conv => lhs; rw [← h]
    simp only [List.map_append, List.sum_append]
  omega
def SzRel (w : World) (f : Nat → Nat) (m : Nat) (n i : Value) (wr : World) : Prop :=
  ∃ k s : Nat, k ≤ m ∧ i = .int .i64 (k : Int) ∧ n = .int .i64 (s : Int) ∧ Hid (s = f k) ∧ Below w.heap.size w wr
set_option maxRecDepth 20000 in
set_option maxHeartbeats 1000000 in
theorem size_any (F : Nat → Prop) (v : Value) (ts : List TxnM) (w : World) (h : TxnsAt F w v ts) (hf : Few4 ts) (hm : MayAll ts) :
    Calls Tryz.prog 62 #[.agg #[v]] w fun e w' => e = .returned (.int .i64 (sizeH ts : Int)) ∧ Below w.heap.size w w' := by
  obtain ⟨a, c, rfl, _, _⟩ := h.shape
  have H := hide h
  have FW := hide hf
  have M := hide hm
  have hlen := hf.1
  have LE := hide (show sizeH ts ≤ 60000000000 by have := sizeH_le ts (fun t ht => (hf.2.2 t ht).2); have := hf.2.1; omega)
  clear h hf hm
  go_enter Tryz.func62, Tryz.ntmps62
  go_wp2
  go_loopw [3, 11] (fun n i wr => SzRel w (fun k => sizeH (ts.take k)) ts.length n i wr) (fun _ i _ => ts.length - (intOf i).toNat)
  case atStart => exact ⟨0, 0, by omega, rfl, rfl, hide rfl, (Below.refl _ _).alloc (Nat.le_refl _) _⟩
  case round =>
    obtain ⟨k, s, hk, rfl, rfl, hs, hbel⟩ := hrel
    replace hs : Hid (s = sizeH (ts.take k)) := hs
    have hsb : s ≤ 60000000000 := by have q := hs.out; have := sizeH_split ts k; have := LE.out; omega
    by_cases hlt : k < ts.length
    · obtain ⟨b1, o1, l1, q1, rfl, _, hb1, c0, c1, c2, hi1, _⟩ := (H.out.keep hbel).at hlt
      have HO : Hid (OpsAt F wr (.slice l1 ts[k].ops.length q1) ts[k].ops) := hi1
      have KI := hide (M.out _ (List.getElem_mem hlt)).1
      have KM := hide (M.out _ (List.getElem_mem hlt)).2
      have FO := hide (FW.out.2.2 _ (List.getElem_mem hlt))
      have hol0 := (FW.out.2.2 _ (List.getElem_mem hlt)).1
      have HB := hide hbel
      obtain ⟨s1, h1⟩ : ∃ s, sizeN [ts[k].id] = s := ⟨_, rfl⟩
      have b1' := sizeN_le [ts[k].id]
      rw [h1] at b1'
      simp at b1'
      have E1 := hide h1
      have hz := hbel.size
      have ST : Hid (sizeH (ts.take (k + 1)) = s + (2 + s1 + 2 + (ts[k].ops.map sizeO).sum)) := hide (by have q := hs.out; rw [sizeH_take hlt, q]; unfold sizeT; rw [h1])
      have SB : Hid (sizeH (ts.take (k + 1)) ≤ 60000000000) := hide (Nat.le_trans (sizeH_split ts _) LE.out)
      clear h1 hi1 hbel
      go_wp2_with (first | (go_at_call 82; (with_reducible refine (nsize1 ts[k].id _ _ (by first | exact Is.made _ _ _ (by first | rfl | simp) | exact Is.drew (Is.made _ _ _ (by first | rfl | simp)) | exact Is.drewN (Is.made _ _ _ (by first | rfl | simp)) _) KI.out).mono ?_); rw [E1.out]; rintro e w1 ⟨rfl, hq⟩; replace hq := hq.symm; subst hq))
      go_loopw [3, 26] (fun n i wr' => SzRel wr (fun j => s + (2 + s1 + 2 + ((ts[k].ops.take j).map sizeO).sum)) ts[k].ops.length n i wr') (fun _ i _ => ts[k].ops.length - (intOf i).toNat)
      case atStart => exact ⟨0, s + (2 + s1 + 2), by omega, rfl, by go_num, hide (by simp), (by repeat (first | exact Below.refl _ _ | refine Below.drew ?_ | refine Below.drewN ?_ _ | refine Below.alloc ?_ (by first | omega | (simp; done) | (simp; omega)) _))⟩
      case round =>
        obtain ⟨j, s2, hj, rfl, rfl, hs2, hbel2⟩ := hrel
        replace hs2 : Hid (s2 = s + (2 + s1 + 2 + ((ts[k].ops.take j).map sizeO).sum)) := hs2
        have hsb2 : s2 ≤ 60000000000 := by have q := hs2.out; have q1 := sizeOs_split ts[k].ops j; have q2 := SB.out; have q3 := ST.out; omega
        have hz2 := hbel2.size
        by_cases hlt2 : j < ts[k].ops.length
        · obtain ⟨b3, o3, l3, q3, rfl, _, hb3, e0, e1, e2, e3, hi3, _⟩ := (HO.out.keep hbel2).at hlt2
          have hol := FO.out.at hlt2
          have KO := hide (KM.out _ (List.getElem_mem hlt2))
          have HI := hide hi3
          have HB3 := hide hbel2
          obtain ⟨s3, h3⟩ : ∃ s, sizeO ts[k].ops[j] = s := ⟨_, rfl⟩
          have b3' := sizeO_le ts[k].ops[j] hol
          rw [h3] at b3'
          have EO := hide h3
          have S3 : Hid (s2 + s3 = s + (2 + s1 + 2 + ((ts[k].ops.take (j + 1)).map sizeO).sum)) := hide (by have q := hs2.out; rw [q, sizeOs_take hlt2, h3]; omega)
          clear h3 hi3 hbel2 c0 c1 c2
          go_wp2_with (first | (go_at_call 83; go_must ((with_reducible refine (opsize_any F ts[k].ops[j] _ _ (HI.out.keep (by repeat (first | exact Below.refl _ _ | refine Below.drew ?_ | refine Below.drewN ?_ _ | refine Below.alloc ?_ (by first | omega | (simp; done) | (simp; omega)) _))) hol KO.out).mono ?_); rw [EO.out]; rintro e w2 ⟨rfl, hb2⟩; have HB2 := hide (((Below.refl _ _).alloc (Nat.le_refl _) _).trans (hb2.mono (by simp))); clear hb2)))
          go_roundw
          case rel => exact ⟨j + 1, s2 + s3, by omega, by go_num, by go_num, S3, HB3.out.trans (HB2.out.mono HB3.out.size)⟩
          case measure => simp [intOf]; omega
        · have e : j = ts[k].ops.length := by omega
          subst e
          have HB3 := hide hbel2
          have S3 : Hid (s2 = sizeH (ts.take (k + 1))) := hide (by have q := hs2.out; rw [q, ST.out, List.take_length])
          go_wp2
          go_roundw
          case rel => exact ⟨k + 1, s2, by omega, by go_num, rfl, S3, HB.out.trans (HB3.out.mono HB.out.size)⟩
          case measure => simp [intOf]; omega
    · have e : k = ts.length := by omega
      subst e
      have S3 : Hid (s = sizeH ts) := hide (by have q := hs.out; rw [q, List.take_length])
      go_wp2
      go_ret
      exact ⟨by rw [← S3.out]; rfl, hbel⟩
end Go.Proofs.YtkinmllflodhaaaGreat.Hist

/- The contract of the program's Check. -/
namespace Go.Proofs.YtkinmllflodhaaaGreat.Hist
open Go.RowKit Go.Proofs.YtkinmllflodhaaaGreat.Dig Go.Proofs.YtkinmllflodhaaaGreat.Mem Go.Proofs.YtkinmllflodhaaaGreat.Keys
set_option linter.unusedVariables false
set_option linter.unusedSimpArgs false

/-- Behind k transactions without an error. -/
structure ChkS (w : World) (bi : Nat) (ts : List TxnM) (hv : Value) (k : Nat) (wr : World) : Prop where
  below : Below w.heap.size w wr
  lt : w.heap.size < bi
  hist : Is wr w.heap.size #[hv]
  box : Is wr (bi + 1 + 1) #[.map (some bi), .map (some (bi + 1))]
  ids : Ids wr bi k (fun y => twinB (ts.take k) y)
  vals : EVals wr (bi + 1) (opsN (ts.take k)) (fun p => appB (ts.take k) p.1 p.2)
theorem ChkS.start {w w1 : World} (ts : List TxnM) (hv : Value) (U : TypeId) (hb : Below w.heap.size w w1) (hh : Is w1 w.heap.size #[hv]) :
    ChkS w w1.heap.size ts hv 0 (((w1.alloc (.map #[] 0)).alloc (.map #[] 0)).alloc (.cells #[.map (some w1.heap.size), .map (some (w1.heap.size + 1))] U)) := by
  have k1 : Ids (w1.alloc (.map #[] 0)) w1.heap.size 0 (fun _ => false) := SetAt.made w1 rfl
  have k2 : EVals ((w1.alloc (.map #[] 0)).alloc (.map #[] 0)) (w1.heap.size + 1) 0 (fun _ => false) := SetAt.made (w1.alloc (.map #[] 0)) (by simp)
  refine ⟨((hb.alloc hb.size _).alloc (by simp; have := hb.size; omega) _).alloc (by simp; have := hb.size; omega) _, hh.lt, ((hh.alloc _).alloc _).alloc _, Is.made _ _ U (by simp), ?_, ?_⟩
  · exact ((k1.keep (S := fun _ => False) ((Only.refl _ _).alloc _) (fun q => q)).keep (S := fun _ => False) ((Only.refl _ _).alloc _) (fun q => q))
  · exact k2.keep (S := fun _ => False) ((Only.refl _ _).alloc _) (fun q => q)
theorem ChkS.next {w wr w7 : World} {bi : Nat} {ts : List TxnM} {hv : Value} {k : Nat} {C : Array Value} {T : TypeId} (h : ChkS w bi ts hv k wr) (hk : k < ts.length) (ho : Only (fun b => b = bi ∨ b = bi + 1) (wr.alloc (.cells C T)) w7)
    (hi : Ids w7 bi (k + 1) (fun y => twinB (ts.take k ++ [ts[k]]) y)) (hv' : EVals w7 (bi + 1) (opsN (ts.take k) + ts[k].ops.length) (fun p => appB (ts.take k ++ [ts[k]]) p.1 p.2)) : ChkS w bi ts hv (k + 1) w7 := by
  have hO : Only (fun b => b = bi ∨ b = bi + 1) wr w7 := ((Only.refl (fun b => b = bi ∨ b = bi + 1) wr).alloc (.cells C T)).trans ho
  have hl := h.lt
  refine ⟨h.below.only hO (fun i q => by omega) h.below.size, h.lt, h.hist.keep hO (by omega), h.box.keep hO (by omega), ?_, ?_⟩
  · rw [List.take_succ_eq_append_getElem hk]; exact hi
  · rw [List.take_succ_eq_append_getElem hk, opsN_app]
    have : opsN [ts[k]] = ts[k].ops.length := by simp [opsN]
    rw [this]
    exact hv'
theorem ChkS.step {w wr w7 : World} {bi : Nat} {ts : List TxnM} {hv : Value} {k : Nat} {C : Array Value} {T : TypeId} (h : ChkS w bi ts hv k wr) (ho : Only (fun b => b = bi ∨ b = bi + 1) (wr.alloc (.cells C T)) w7) : Below w.heap.size w w7 := by
  have hO : Only (fun b => b = bi ∨ b = bi + 1) wr w7 := ((Only.refl (fun b => b = bi ∨ b = bi + 1) wr).alloc (.cells C T)).trans ho
  have hl := h.lt
  exact h.below.only hO (fun i q => by omega) h.below.size
def ChkRel (w : World) (bi : Nat) (ts : List TxnM) (hv : Value) (i : Value) (wr : World) : Prop :=
  ∃ k : Nat, k ≤ ts.length ∧ i = .int .i64 (k : Int) ∧ Hid (chkTs [] (ts.take k) = 0) ∧ Hid (ChkS w bi ts hv k wr)
set_option maxRecDepth 20000 in
set_option maxHeartbeats 1000000 in
theorem check_any (F : Nat → Prop) (v : Value) (ts : List TxnM) (w : World) (h : TxnsAt F w v ts) (hF : ∀ b, F b → b < w.heap.size) (hf : Few4 ts) :
    Calls Tryz.prog 34 #[.agg #[v]] w fun e w' => e = .returned (.int .i64 (checkS ts)) ∧ Below w.heap.size w w' := by
  obtain ⟨a, c, rfl, _, _⟩ := h.shape
  have H := hide h
  have FF := hide hF
  have FW := hide hf
  have hlen := hf.1
  have hops := hf.2.1
  clear h hf hF
  by_cases h1 : 1024 < ts.length
  · have h1' : (1024 : Int) < (ts.length : Int) := by omega
    have T : Hid (checkS ts = 3) := hide (by unfold checkS; rw [if_pos (.inl h1)])
    clear h1
    go_enter Tryz.func34, Tryz.ntmps34
    go_wp2
    go_ret
    exact ⟨by rw [T.out]; rfl, (Below.refl _ _).alloc (Nat.le_refl _) _⟩
  have h1' : ¬ (1024 : Int) < (ts.length : Int) := by omega
  obtain ⟨no, hno⟩ : ∃ no, (opsN ts : Int) = no := ⟨_, rfl⟩
  have EO := hide hno
  by_cases h2 : 4096 < opsN ts
  · have h2' : (4096 : Int) < no := by omega
    have T : Hid (checkS ts = 3) := hide (by unfold checkS; rw [if_pos (.inr h2)])
    clear h1 h2 hno
    go_enter Tryz.func34, Tryz.ntmps34
    go_wp2_with (first | (go_at_call 60; go_must ((with_reducible refine (ops_any F _ ts _ (H.out.keep ((Below.refl _ _).alloc (Nat.le_refl _) _)) (by omega) (by omega)).mono ?_); rw [EO.out]; rintro e w1 ⟨rfl, hb1⟩; have HB1 := hide (((Below.refl _ _).alloc (Nat.le_refl _) _).trans (hb1.mono (by simp))); have s1 := (Is.made w #[.slice a ts.length c] 24 rfl).below hb1; have S1 := hide s1; have x1 : w1.cell? ⟨w.heap.size, 0, none⟩ = some (.slice a ts.length c) := s1.cell 0 rfl; have z1 := s1.lt; have x3 : ∀ o1 o2 o3, (((w1.alloc o1).alloc o2).alloc o3).cell? ⟨w.heap.size, 0, none⟩ = some (.slice a ts.length c) := fun o1 o2 o3 => (((S1.out.alloc o1).alloc o2).alloc o3).cell 0 rfl; clear s1 hb1)))
    go_ret
    exact ⟨by rw [T.out]; rfl, HB1.out⟩
  have h2' : ¬ (4096 : Int) < no := by omega
  have T0 : Hid (checkS ts = if chkTs [] ts ≠ 0 then chkTs [] ts else if 262144 < (textH ts).length then 3 else 0) := hide (by unfold checkS; rw [if_neg (by omega)])
  have LEN : Hid (ts.length ≤ 1024 ∧ opsN ts ≤ 4096) := hide ⟨by omega, by omega⟩
  clear h1 h2 hno
  have hmm := @run_makeMap Tryz.prog
  go_enter Tryz.func34, Tryz.ntmps34
  go_wp2_with (first | (go_at_call 60; go_must ((with_reducible refine (ops_any F _ ts _ (H.out.keep ((Below.refl _ _).alloc (Nat.le_refl _) _)) (by omega) (by omega)).mono ?_); rw [EO.out]; rintro e w1 ⟨rfl, hb1⟩; have HB1 := hide (((Below.refl _ _).alloc (Nat.le_refl _) _).trans (hb1.mono (by simp))); have s1 := (Is.made w #[.slice a ts.length c] 24 rfl).below hb1; have S1 := hide s1; have x1 : w1.cell? ⟨w.heap.size, 0, none⟩ = some (.slice a ts.length c) := s1.cell 0 rfl; have z1 := s1.lt; have x3 : ∀ o1 o2 o3, (((w1.alloc o1).alloc o2).alloc o3).cell? ⟨w.heap.size, 0, none⟩ = some (.slice a ts.length c) := fun o1 o2 o3 => (((S1.out.alloc o1).alloc o2).alloc o3).cell 0 rfl; clear s1 hb1)))
  have C0 := hide (ChkS.start ts (.slice a ts.length c) 124 HB1.out S1.out)
  clear hmm x3
  go_loopw [22] (fun i wr => ChkRel w w1.heap.size ts (.slice a ts.length c) i wr) (fun i _ => ts.length - (intOf i).toNat)
  case atStart => exact ⟨0, by omega, rfl, hide rfl, C0⟩
  case round =>
    obtain ⟨k, hk, rfl, hc0, hC⟩ := hrel
    by_cases hlt : k < ts.length
    · have HR := hide (H.out.only (S := fun b => w.heap.size ≤ b) (⟨hC.out.below.os, hC.out.below.tape, hC.out.below.output, hC.out.below.size, fun b hb hn => hC.out.below.block b (by omega)⟩) (fun b q => by have := FF.out b q; omega))
      obtain ⟨b1, o1, l1, q1, rfl, _, hb1, d0, d1, d2, hi1, wi⟩ := HR.out.at hlt
      have hal : Below wr.heap.size wr (wr.alloc (.cells #[.int .i64 ts[k].id, .bool ts[k].ab, .slice l1 ts[k].ops.length q1] 55)) := (Below.refl _ _).alloc (Nat.le_refl _) _
      have HO := hide (hi1.keep hal)
      have HI := hide (hC.out.ids.keep (Only.of_below (S := fun _ => False) hal) (fun q => q))
      have HV := hide (hC.out.vals.keep (Only.of_below (S := fun _ => False) hal) (fun q => q))
      have WI := hide wi
      have FO := hide (FW.out.2.2 _ (List.getElem_mem hlt))
      have HNV : Hid (opsN (ts.take k) + ts[k].ops.length < 1000000) := hide (by have q1 := opsN_take hlt; have q2 := opsN_take_le ts (k + 1); omega)
      have FB : Hid (∀ b, F b → b ≠ w1.heap.size ∧ b ≠ w1.heap.size + 1) := hide (fun b q => by have := FF.out b q; omega)
      have m0 : wr.cell? ⟨w1.heap.size + 1 + 1, 0, none⟩ = some (.map (some w1.heap.size)) := hC.out.box.cell 0 rfl
      have m1 : wr.cell? ⟨w1.heap.size + 1 + 1, 1, none⟩ = some (.map (some (w1.heap.size + 1))) := hC.out.box.cell 1 rfl
      have hz : w1.heap.size + 1 + 1 < wr.heap.size := hC.out.box.lt
      have hk5 : k < 100000 := by omega
      have HT := hide (chkTs_next hlt hc0.out)
      obtain ⟨e, he⟩ : ∃ e, chkT (ts.take k) ts[k] = e := ⟨_, rfl⟩
      have HE := hide he
      clear hal hi1 wi
      by_cases e0 : e = 0
      · subst e0
        clear he
        go_wp2_with (first | (go_at_call 61; go_must ((with_reducible refine (mettxn_any F ts[k] _ w1.heap.size (w1.heap.size + 1) k (opsN (ts.take k)) (ts.take k) _ HI.out HV.out (by omega) HO.out FB.out FO.out WI.out hk5 HNV.out).mono ?_); rw [HE.out]; rintro e' w7 ⟨rfl, ho7, hv7⟩; replace ho7 := hide ho7; replace hv7 := hide hv7)))
        have C7 := hide (ChkS.next hC.out hlt ho7.out (hv7.out (by trivial)).1 (hv7.out (by trivial)).2)
        go_roundw
        case rel => exact ⟨k + 1, by omega, by go_num, hide (HT.out.trans HE.out), C7⟩
        case measure => simp [intOf]; omega
      · have e1 : (e != 0) = true := by simpa using e0
        have TE : Hid (checkS ts = e) := hide (by have q := chkTs_stop (HT.out.trans he) e0; rw [T0.out, q, if_pos e0])
        clear he e0
        go_wp2_with (first | (go_at_call 61; go_must ((with_reducible refine (mettxn_any F ts[k] _ w1.heap.size (w1.heap.size + 1) k (opsN (ts.take k)) (ts.take k) _ HI.out HV.out (by omega) HO.out FB.out FO.out WI.out hk5 HNV.out).mono ?_); rw [HE.out]; rintro e' w7 ⟨rfl, ho7, hv7⟩; replace ho7 := hide ho7; replace hv7 := hide hv7)))
        go_ret
        exact ⟨by rw [TE.out]; rfl, ChkS.step hC.out ho7.out⟩
    · have e : k = ts.length := by omega
      subst e
      have q0 := hc0.out
      rw [List.take_length] at q0
      have hM : MayAll ts := valid_may (by have := chkTs_valid ts [] Valid.nil (by simp; exact LEN.out.1) q0; simpa using this)
      have MM := hide hM
      have HR := hide (H.out.only (S := fun b => w.heap.size ≤ b) (⟨hC.out.below.os, hC.out.below.tape, hC.out.below.output, hC.out.below.size, fun b hb hn => hC.out.below.block b (by omega)⟩) (fun b q => by have := FF.out b q; omega))
      have x1 : wr.cell? ⟨w.heap.size, 0, none⟩ = some (.slice a ts.length c) := hC.out.hist.cell 0 rfl
      obtain ⟨sz, hsz⟩ : ∃ sz, (sizeH ts : Int) = sz := ⟨_, rfl⟩
      have ES := hide hsz
      have HB := hide hC.out.below
      by_cases h3 : 262144 < sz
      · have T : Hid (checkS ts = 3) := hide (by rw [T0.out, q0, if_neg (by simp), if_pos (by have := sizeH_len ts; have := textH8_len ts; omega)])
        clear q0 hM hsz
        go_wp2_with (first | (go_at_call 62; go_must ((with_reducible refine (size_any F _ ts _ HR.out FW.out MM.out).mono ?_); rw [ES.out]; rintro e' w9 ⟨rfl, hb9⟩; have HB9 := hide (HB.out.trans (hb9.mono HB.out.size)); clear hb9)))
        go_ret
        exact ⟨by rw [T.out]; rfl, HB9.out⟩
      · have T : Hid (checkS ts = 0) := hide (by rw [T0.out, q0, if_neg (by simp), if_neg (by have := sizeH_len ts; have := textH8_len ts; omega)])
        clear q0 hM hsz
        go_wp2_with (first | (go_at_call 62; go_must ((with_reducible refine (size_any F _ ts _ HR.out FW.out MM.out).mono ?_); rw [ES.out]; rintro e' w9 ⟨rfl, hb9⟩; have HB9 := hide (HB.out.trans (hb9.mono HB.out.size)); clear hb9)))
        go_ret
        exact ⟨by rw [T.out]; rfl, HB9.out⟩
end Go.Proofs.YtkinmllflodhaaaGreat.Hist

/- The document's Few. -/
namespace Go.Proofs.YtkinmllflodhaaaGreat.Hist
open Go.RowKit Go.Proofs.YtkinmllflodhaaaGreat.Dig Go.Proofs.YtkinmllflodhaaaGreat.Mem
set_option linter.unusedVariables false
set_option linter.unusedSimpArgs false

def Lists (m : Nat) (ts : List TxnM) : Prop := ∀ t ∈ ts, ∀ o ∈ t.ops, o.list.length ≤ m
def FewRel (ts : List TxnM) (n i : Value) : Prop := ∃ k : Nat, k ≤ ts.length ∧ i = .int .i64 (k : Int) ∧ n = .int .i64 (opsN (ts.take k) : Int) ∧ opsN (ts.take k) ≤ 100 ∧ Hid (Lists 100 (ts.take k))
theorem FewRel.next {ts : List TxnM} {k : Nat} {n i : Value} (hk : k < ts.length) (h : Hid (Lists 100 (ts.take k))) (hl : ∀ o ∈ ts[k].ops, o.list.length ≤ 100) (hn : opsN (ts.take k) + ts[k].ops.length ≤ 100)
    (e1 : i = .int .i64 ((k + 1 : Nat) : Int)) (e2 : n = .int .i64 ((opsN (ts.take k) + ts[k].ops.length : Nat) : Int)) : FewRel ts n i := by
  refine ⟨k + 1, by omega, e1, by rw [opsN_take hk]; exact e2, by rw [opsN_take hk]; exact hn, hide ?_⟩
  intro t ht
  rw [List.take_succ_eq_append_getElem hk] at ht
  rcases List.mem_append.1 ht with q | q
  · exact h.out t q
  · simp at q; subst q; exact hl
def FewPost (ts : List TxnM) (w : World) (e : Ending) (w' : World) : Prop := ∃ r, e = .returned (.bool r) ∧ (r = true → ts.length ≤ 40 ∧ opsN ts ≤ 100 ∧ Lists 100 ts) ∧ Below w.heap.size w w'
theorem rfew_any (F : Nat → Prop) (tv : Value) (ts : List TxnM) (w : World) (h : TxnsAt F w tv ts) :
    Calls Tryz.prog 5 #[.agg #[tv], .int .i64 40, .int .i64 100] w (FewPost ts w) := by
  obtain ⟨a, c, rfl, hc1, hc2⟩ := h.shape
  unfold maxLen at hc2
  have H : Hid (TxnsAt F w (.slice a ts.length c) ts) := h
  clear h
  by_cases h40 : ts.length ≤ 40
  rotate_left
  · have h40' : (40 : Int) < (ts.length : Int) := by omega
    go_enter Tryz.func5, Tryz.ntmps5
    go_wp2
    go_ret
    exact ⟨false, rfl, by simp, (Below.refl _ _).alloc (Nat.le_refl _) _⟩
  have h40' : ¬ (40 : Int) < (ts.length : Int) := by omega
  go_enter Tryz.func5, Tryz.ntmps5
  go_wp2
  go_loop [7, 8] (fun n i => FewRel ts n i) (fun _ i => ts.length - (intOf i).toNat)
  case atStart => exact ⟨0, by omega, rfl, rfl, by simp [opsN], hide (by intro t ht; simp at ht)⟩
  case round =>
    obtain ⟨k, hk, rfl, rfl, hn, hL⟩ := hrel
    by_cases hlt : k < ts.length
    · obtain ⟨b1, o1, l1, q1, rfl, _, hb1, c0, c1, c2, hi1, _⟩ := H.out.at hlt
      obtain ⟨_, _, e, g1, g2⟩ := hi1.shape
      simp at e
      obtain ⟨rfl, rfl⟩ := e
      unfold maxLen at g2
      have HO : Hid (OpsAt F w (.slice l1 ts[k].ops.length q1) ts[k].ops) := hi1
      clear hi1
      by_cases h2 : opsN (ts.take k) + ts[k].ops.length ≤ 100
      rotate_left
      · have h2' : (100 : Int) - (opsN (ts.take k) : Int) < (ts[k].ops.length : Int) := by omega
        clear h2
        go_wp2
        go_ret
        exact ⟨false, rfl, by simp, (Below.refl _ _).alloc (Nat.le_refl _) _⟩
      have h2' : ¬ (100 : Int) - (opsN (ts.take k) : Int) < (ts[k].ops.length : Int) := by omega
      go_wp2
      go_loop [9] (fun i => ∃ j : Nat, j ≤ ts[k].ops.length ∧ i = .int .i64 (j : Int) ∧ Hid (∀ o ∈ ts[k].ops.take j, o.list.length ≤ 100)) (fun i => ts[k].ops.length - (intOf i).toNat)
      case atStart => exact ⟨0, by omega, rfl, hide (by simp)⟩
      case round =>
        obtain ⟨j, hj, rfl, hl⟩ := hrel
        by_cases hlt2 : j < ts[k].ops.length
        · obtain ⟨b3, o3, l3, q3, rfl, _, hb3, e0, e1, e2, e3, hi3, _⟩ := HO.out.at hlt2
          obtain ⟨_, _, e, g3, g4⟩ := hi3.shape
          simp at e
          obtain ⟨rfl, rfl⟩ := e
          unfold maxLen at g4
          clear hi3
          by_cases h3 : ts[k].ops[j].list.length ≤ 100
          · have h3' : ¬ (100 : Int) < (ts[k].ops[j].list.length : Int) := by omega
            have HN : Hid (∀ o ∈ ts[k].ops.take (j + 1), o.list.length ≤ 100) := hide (by
              intro o ho
              rw [List.take_succ_eq_append_getElem hlt2] at ho
              rcases List.mem_append.1 ho with q | q
              · exact hl.out o q
              · simp at q; subst q; exact h3)
            go_wp2
            go_round
            case rel => exact ⟨j + 1, by omega, by go_num, HN⟩
            case measure => simp [intOf]; omega
          · have h3' : (100 : Int) < (ts[k].ops[j].list.length : Int) := by omega
            go_wp2
            go_ret
            exact ⟨false, rfl, by simp, (Below.refl _ _).alloc (Nat.le_refl _) _⟩
        · have HA : Hid (∀ o ∈ ts[k].ops, o.list.length ≤ 100) := hide (by
            have q := hl.out
            rwa [List.take_of_length_le (by omega)] at q)
          go_wp2
          go_round
          case rel => exact FewRel.next hlt hL HA.out h2 (by go_num) (by go_num)
          case measure => simp [intOf]; omega
    · have HA : Hid (ts.length ≤ 40 ∧ opsN ts ≤ 100 ∧ Lists 100 ts) := hide (by
        have q := hL.out
        rw [List.take_of_length_le (by omega)] at q hn
        exact ⟨h40, hn, q⟩)
      go_wp2
      go_ret
      exact ⟨true, rfl, fun _ => HA.out, (Below.refl _ _).alloc (Nat.le_refl _) _⟩
end Go.Proofs.YtkinmllflodhaaaGreat.Hist
