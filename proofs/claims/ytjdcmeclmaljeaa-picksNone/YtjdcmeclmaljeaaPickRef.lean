/- The document's Cancelled and Step, over a struct of the picks, the step at which all is cancelled, how many steps there were, and how many picks were used. -/
import Derived.Test.YtjdcmeclmaljeaaPickPlain
import Derived.Test.YtjdcmeclmaljeaaDqRow
import Derived.Test.YtjdcmeclmaljeaaSetRef
import Derived.Deep.DeepMust
namespace Go.Proofs.Ytjdcmeclmaljeaa.Pick
open Go.RowKit Go.Proofs.Ytjdcmeclmaljeaa.Dig Go.Proofs.Ytjdcmeclmaljeaa.Mem Go.Proofs.Ytjdcmeclmaljeaa.Dq Go.Proofs.Ytjdcmeclmaljeaa.Sets
set_option linter.unusedVariables false
set_option linter.unusedSimpArgs false

/-- A struct of the document's. -/
abbrev rv (a : Option Addr) (m p : Nat) (c : Int) (n u : Nat) : Array Value := #[.slice a m p, .int .i64 c, .int .i64 (n : Int), .int .i64 (u : Int)]
theorem _root_.Go.Proofs.Ytjdcmeclmaljeaa.Dq.RowI.v {w : World} {a : Option Addr} {c : Nat} {l : List Int} (h : RowI w a c l) : RowV w a c l := ⟨h.cap, h.rd, h.nil⟩
theorem _root_.Go.Proofs.Ytjdcmeclmaljeaa.Sets.RowV.i {w : World} {a : Option Addr} {c : Nat} {l : List Int} (h : RowV w a c l) : RowI w a c l := ⟨h.cap, h.rd, h.nil⟩
section
variable (w : World) (a : Option Addr) (m p : Nat) (c : Int) (n u : Nat)
theorem rover_any {d : Bool} (hd : over c n = d) : Calls Try.prog 14 #[.agg (rv a m p c n u)] w fun e w' => e = .returned (.bool d) ∧ Below w.heap.size w w' := by
  unfold rv
  subst hd
  unfold over
  by_cases h1 : 0 ≤ c
  · by_cases h2 : c ≤ (n : Int)
    · rw [decide_eq_true h1, decide_eq_true h2]
      go_enter Try.func14, Try.ntmps14
      go_wp2
      go_ret
      exact ⟨rfl, (Below.refl _ _).alloc (Nat.le_refl _) _⟩
    · rw [decide_eq_true h1, decide_eq_false h2]
      go_enter Try.func14, Try.ntmps14
      go_wp2
      go_ret
      exact ⟨rfl, (Below.refl _ _).alloc (Nat.le_refl _) _⟩
  · rw [decide_eq_false h1]
    go_enter Try.func14, Try.ntmps14
    go_wp2
    go_ret
    exact ⟨rfl, (Below.refl _ _).alloc (Nat.le_refl _) _⟩
set_option maxHeartbeats 1000000 in
theorem rstep_over (h : over c n = true) (r : Value) : Calls Try.prog 10 #[.agg (rv a m p c n u), r] w fun e w' => e = .returned (.tuple #[.agg (rv a m p c n u), .int .i64 0, .int .i64 8]) ∧ Below w.heap.size w w' := by
  have HR := hide (fun W => rover_any W a m p c n u h)
  unfold rv at *
  clear h
  go_enter Try.func10, Try.ntmps10
  go_wp2_with (go_at_call 14; go_must ((refine (Hid.out HR _).mono ?_); rintro e w3 ⟨rfl, hb3⟩; obtain ⟨i1, i2, hb, hz⟩ := two_boxes hb3; have I1 := hide i1; have I2 := hide i2; have HB := hide hb; obtain ⟨⟨p0, p1, p2, p3⟩, f0, f1, f2, f3⟩ := i1.four; obtain ⟨⟨q0, q1, q2, q3⟩, g0, g1, g2, g3⟩ := i2.four; clear i1 i2 hb hb3))
  refine bodyPost_ret (v := .tuple #[.agg #[.slice a m p, .int .i64 c, .int .i64 (n : Int), .int .i64 (u : Int)], .int .i64 0, .int .i64 8]) (by simp [results, Try.results10, go_sem, p0, p1, p2, p3, q0, q1, q2, q3, hz]) rfl ?_
  exact ⟨rfl, ((((HB.out.setCell (p := ⟨_, _, none⟩) (by simp) _).setCell (p := ⟨_, _, none⟩) (by simp) _).setCell (p := ⟨_, _, none⟩) (by simp) _).setCell (p := ⟨_, _, none⟩) (by simp) _)⟩
set_option maxHeartbeats 1000000 in
theorem rstep_none (h : over c n = false) (ra : Option Addr) (rc : Nat) (hr : RowI w ra rc []) : Calls Try.prog 10 #[.agg (rv a m p c n u), .slice ra 0 rc] w fun e w' => e = .returned (.tuple #[.agg (rv a m p c n u), .int .i64 0, .int .i64 10]) ∧ Below w.heap.size w w' := by
  have HR := hide (fun W => rover_any W a m p c n u h)
  have HO : Hid (∀ W, Below w.heap.size w W → Calls Try.prog 23 #[.slice ra 0 rc] W fun e w' => (∃ a' c', e = .returned (.slice a' 0 c') ∧ RowV w' a' c' [] ∧ ∀ x, a' = some x → W.heap.size ≤ x.block) ∧ Below W.heap.size W w') := hide (fun W hb => by
    have := rof_fresh ra rc [] W (hr.keep hb).v (by simp)
    rw [setL_nil] at this
    exact this)
  unfold rv at *
  clear h hr
  go_enter Try.func10, Try.ntmps10
  go_wp2_with (first | (go_at_call 14; go_must ((refine (Hid.out HR _).mono ?_); rintro e w3 ⟨rfl, hb3⟩; obtain ⟨i1, i2, hb, hz⟩ := two_boxes hb3; have I1 := hide i1; have I2 := hide i2; have HB := hide hb; clear i1 i2 hb hb3)) | (go_at_call 23; go_must ((refine (Hid.out HO _ HB.out).mono ?_); rintro e w4 ⟨⟨sa, sc, rfl, hr4, hf4⟩, hb4⟩; have HR4 := hide hr4; have HF4 := hide hf4; have I3 := hide (I1.out.below hb4); have I4 := hide (I2.out.below hb4); have HB4 := hide (HB.out.trans (hb4.mono HB.out.size)); obtain ⟨⟨p0, p1, p2, p3⟩, f0, f1, f2, f3⟩ := I3.out.four; obtain ⟨⟨q0, q1, q2, q3⟩, g0, g1, g2, g3⟩ := I4.out.four; clear hr4 hb4 hf4)))
  refine bodyPost_ret (v := .tuple #[.agg #[.slice a m p, .int .i64 c, .int .i64 (n : Int), .int .i64 (u : Int)], .int .i64 0, .int .i64 10]) (by simp [results, Try.results10, go_sem, p0, p1, p2, p3, q0, q1, q2, q3, hz]) rfl ?_
  exact ⟨rfl, ((((HB4.out.setCell (p := ⟨_, _, none⟩) (by simp) _).setCell (p := ⟨_, _, none⟩) (by simp) _).setCell (p := ⟨_, _, none⟩) (by simp) _).setCell (p := ⟨_, _, none⟩) (by simp) _)⟩
set_option maxHeartbeats 2000000 in
/-- No pick is left: the least one is told. -/
theorem rstep_least (h : over c n = false) (hn : n ≤ 1000000) {L : List Int} (hm : m = L.length) (hmn : m ≤ n) (hm2 : m ≤ 1000000) (ra : Option Addr) (rc : Nat) (l : List Int) (hl : l ≠ []) (hl2 : l.length ≤ 1000) {k : Nat} (hk : k = l.length) (hr : RowI w ra rc l) : Calls Try.prog 10 #[.agg (rv a m p c n m), .slice ra k rc] w fun e w' => e = .returned (.tuple #[.agg #[.slice a m p, .int .i64 c, .int .i64 ((n : Int) + 1), .int .i64 (m : Int)], .int .i64 (told L n l), .int .i64 0]) ∧ Below w.heap.size w w' := by
  have HR := hide (fun W => rover_any W a m p c n m h)
  have hs := setL_ne hl
  have HT0 : told L n l = (setL ltI l).getD 0 0 := by unfold told; rw [place_none (by omega)]
  obtain ⟨s, hs'⟩ : ∃ s, s = setL ltI l := ⟨_, rfl⟩
  obtain ⟨sl, hsl⟩ : ∃ sl, sl = s.length := ⟨_, rfl⟩
  obtain ⟨t, ht⟩ : ∃ t, t = s.getD 0 0 := ⟨_, rfl⟩
  rw [← hs', ← ht] at HT0
  rw [← hs', ← hsl] at hs
  have HT := hide HT0.symm
  have HO : Hid (∀ W, Below w.heap.size w W → Calls Try.prog 23 #[.slice ra k rc] W fun e w' => (∃ a' c', e = .returned (.slice a' sl c') ∧ RowV w' a' c' s ∧ ∀ x, a' = some x → W.heap.size ≤ x.block) ∧ Below W.heap.size W w') := hide (fun W hb => by
    have := rof_fresh ra rc l W (hr.keep hb).v hl2
    rw [← hs', ← hsl, ← hk] at this
    exact this)
  have HAT : Hid (∀ W a' c', RowV W a' c' s → ∃ b off, a' = some ⟨b, off, none⟩ ∧ W.cell? ⟨b, off, none⟩ = some (.int .i64 t)) := hide (fun W a' c' q => by
    obtain ⟨b, off, e, hc⟩ := q.at (i := 0) (by omega)
    rw [← ht] at hc
    exact ⟨b, off, e, hc⟩)
  have g0 : ((sl : Int) == 0) = false := by simp; omega
  have g1 : (0 : Int) < (sl : Int) := by omega
  have g2 : decide ((m : Int) ≤ (m : Int)) = true := by simp
  have g3 : ¬ (m : Int) < (m : Int) := by omega
  unfold rv at *
  clear h hr hl hl2 hk hs' hsl ht HT0 hm hmn
  go_enter Try.func10, Try.ntmps10
  go_wp2_with (first | (go_at_call 14; go_must ((refine (Hid.out HR _).mono ?_); rintro e w3 ⟨rfl, hb3⟩; obtain ⟨i1, i2, hb, hz⟩ := two_boxes hb3; have I1 := hide i1; have I2 := hide i2; have HB := hide hb; clear i1 i2 hb hb3)) | (go_at_call 23; go_must ((refine (Hid.out HO _ HB.out).mono ?_); rintro e w4 ⟨⟨sa, sc, rfl, hr4, hf4⟩, hb4⟩; have HR4 := hide hr4; have HF4 := hide hf4; have I3 := hide (I1.out.below hb4); have I4 := hide (I2.out.below hb4); have HB4 := hide (HB.out.trans (hb4.mono HB.out.size)); obtain ⟨⟨p0, p1, p2, p3⟩, f0, f1, f2, f3⟩ := I3.out.four; obtain ⟨⟨q0, q1, q2, q3⟩, g0, g1, g2, g3⟩ := I4.out.four; clear hr4 hb4 hf4)))
  obtain ⟨sb, so, rfl, hcell⟩ := HAT.out _ _ _ HR4.out
  have hsb := lt_of_cell hcell
  have n0 := HF4.out _ rfl
  have n1 : ¬ sb = w.heap.size := by simp at n0; omega
  have n2 : ¬ sb = w.heap.size + 1 := by simp at n0; omega
  go_region
  all_goals
    go_wp2
    refine bodyPost_ret (v := .tuple #[.agg #[.slice a m p, .int .i64 c, .int .i64 ((n : Int) + 1), .int .i64 (m : Int)], .int .i64 t, .int .i64 0]) (by simp [results, Try.results10, go_sem, p0, p1, p2, p3, q0, q1, q2, q3, hz]) rfl ?_
    refine ⟨by rw [HT.out], ?_⟩
    repeat (first | with_reducible exact HB4.out | (with_reducible refine Below.setCell (p := ⟨_, _, none⟩) ?_ (by simp) _) | with_reducible apply Below.drew)
set_option maxHeartbeats 4000000 in
/-- A pick is used. -/
theorem rstep_pick (h : over c n = false) (hn : n ≤ 1000000) {L : List Int} (hm : m = L.length) (hmn : n < m) (hm2 : m ≤ 1000000) (hL : RowI w a p L) (ra : Option Addr) (rc : Nat) (l : List Int) (hl : l ≠ []) (hl2 : l.length ≤ 1000) {k : Nat} (hk : k = l.length) (hr : RowI w ra rc l) : Calls Try.prog 10 #[.agg (rv a m p c n n), .slice ra k rc] w fun e w' => e = .returned (.tuple #[.agg #[.slice a m p, .int .i64 c, .int .i64 ((n : Int) + 1), .int .i64 ((n : Int) + 1)], .int .i64 (told L n l), .int .i64 0]) ∧ Below w.heap.size w w' := by
  have HR := hide (fun W => rover_any W a m p c n n h)
  have hs := setL_ne hl
  have HT0 : told L n l = (setL ltI l).getD (place L n (setL ltI l).length) 0 := rfl
  have hj := place_lt L n hs
  have hji := place_int L n hs
  have htm := tmod_place (L.getD n 0) hs
  have hsl2 := setL_length (lt := ltI) l
  obtain ⟨s, hs'⟩ : ∃ s, s = setL ltI l := ⟨_, rfl⟩
  rw [← hs'] at HT0 hj hji htm hs hsl2
  obtain ⟨sl, hsl⟩ : ∃ sl, sl = s.length := ⟨_, rfl⟩
  rw [← hsl] at HT0 hj hji htm hs hsl2
  obtain ⟨j, hj'⟩ : ∃ j, j = place L n sl := ⟨_, rfl⟩
  rw [← hj'] at HT0 hj hji
  obtain ⟨t, ht⟩ : ∃ t, t = s.getD j 0 := ⟨_, rfl⟩
  rw [← ht] at HT0
  have HT := hide HT0.symm
  have HO : Hid (∀ W, Below w.heap.size w W → Calls Try.prog 23 #[.slice ra k rc] W fun e w' => (∃ a' c', e = .returned (.slice a' sl c') ∧ RowV w' a' c' s ∧ ∀ x, a' = some x → W.heap.size ≤ x.block) ∧ Below W.heap.size W w') := hide (fun W hb => by
    have := rof_fresh ra rc l W (hr.keep hb).v hl2
    rw [← hs', ← hsl, ← hk] at this
    exact this)
  have HAT : Hid (∀ W a' c', RowV W a' c' s → ∃ b off, a' = some ⟨b, off, none⟩ ∧ W.cell? ⟨b, off + j, none⟩ = some (.int .i64 t)) := hide (fun W a' c' q => by
    obtain ⟨b, off, e, hc⟩ := q.at (i := j) (by omega)
    rw [← ht] at hc
    exact ⟨b, off, e, hc⟩)
  obtain ⟨lb, lo, rfl, hlc⟩ := hL.at (i := n) (by omega)
  have hwf := hL.wf (L.getD n 0) (by rw [List.getD_eq_getElem?_getD, List.getElem?_eq_getElem (by omega)]; exact List.getElem_mem _)
  obtain ⟨x, hx⟩ : ∃ x, x = L.getD n 0 := ⟨_, rfl⟩
  rw [← hx] at hlc hji htm hwf
  obtain ⟨q1', q2'⟩ := bounds_i64 hwf
  have hlb := lt_of_cell hlc
  have HLC : Hid (∀ W, Below w.heap.size w W → W.cell? ⟨lb, lo + n, none⟩ = some (.int .i64 x)) := hide (fun W hb => (hb.cell (p := ⟨lb, lo + n, none⟩) hlb).trans hlc)
  have hlbw : ¬ lb = w.heap.size := by simp at hlb; omega
  have hlbw1 : ¬ lb = w.heap.size + 1 := by simp at hlb; omega
  have z0 : ¬ ((sl : Int) = 0) := by omega
  have g0 : ((sl : Int) == 0) = false := by simp; omega
  have g1 : (n : Int) < (m : Int) := by omega
  have g2 : decide ((m : Int) ≤ (n : Int)) = false := by simp; omega
  have g3 : ¬ (m : Int) ≤ (n : Int) := by omega
  have a1 : -(sl : Int) < x.tmod (sl : Int) ∧ x.tmod (sl : Int) < (sl : Int) := by
    have h1 := Int.emod_nonneg x (show (sl : Int) ≠ 0 by omega)
    have h2 := Int.emod_lt_of_pos x (show (0 : Int) < sl by omega)
    rw [Int.tmod_eq_emod]
    split <;> omega
  obtain ⟨a2, a3⟩ := a1
  rw [← hji] at htm
  have hji2 : (j : Int) < (sl : Int) := by omega
  have w1 : IntKind.i64.wrap (x.tmod (sl : Int)) = x.tmod (sl : Int) := IntWalk.i64_in _ (by omega)
  have w2 : wrap64 (j : Int) = (j : Int) := by rw [← IntWalk.i64_left]; exact IntWalk.i64_in _ (by omega)
  unfold rv at *
  clear h hr hl hl2 hk hs' hsl ht HT0 hm hmn hx hwf hlc hj' hji hL hsl2
  by_cases hneg : x.tmod (sl : Int) < 0
  · rw [if_pos hneg] at htm
    go_enter Try.func10, Try.ntmps10
    go_wp2_with (first | (go_at_call 14; go_must ((refine (Hid.out HR _).mono ?_); rintro e w3 ⟨rfl, hb3⟩; obtain ⟨i1, i2, hb, hz⟩ := two_boxes hb3; have I1 := hide i1; have I2 := hide i2; have HB := hide hb; clear i1 i2 hb hb3)) | ((go_at_call 23; go_must ((refine (Hid.out HO _ HB.out).mono ?_); rintro e w4 ⟨⟨sa, sc, rfl, hr4, hf4⟩, hb4⟩; have HR4 := hide hr4; have HF4 := hide hf4; have I3 := hide (I1.out.below hb4); have I4 := hide (I2.out.below hb4); have HB4 := hide (HB.out.trans (hb4.mono HB.out.size)); obtain ⟨⟨p0, p1, p2, p3⟩, f0, f1, f2, f3⟩ := I3.out.four; obtain ⟨⟨q0, q1, q2, q3⟩, g0, g1, g2, g3⟩ := I4.out.four; clear hr4 hb4 hf4)); obtain ⟨sb, so, rfl, hcell⟩ := HAT.out _ _ _ HR4.out; have hlcell := HLC.out _ HB4.out; have n0 := HF4.out _ rfl; have n1 : ¬ sb = w.heap.size := (by simp at n0; omega); have n2 : ¬ sb = w.heap.size + 1 := (by simp at n0; omega); clear n0))
    go_region
    all_goals
      go_wp2
      refine bodyPost_ret (v := .tuple #[.agg #[.slice (some ⟨lb, lo, none⟩) m p, .int .i64 c, .int .i64 ((n : Int) + 1), .int .i64 ((n : Int) + 1)], .int .i64 t, .int .i64 0]) (by simp [results, Try.results10, go_sem, p0, p1, p2, p3, q0, q1, q2, q3, hz]) rfl ?_
      refine ⟨by rw [HT.out], ?_⟩
      repeat (first | with_reducible exact HB4.out | (with_reducible refine Below.setCell (p := ⟨_, _, none⟩) ?_ (by simp) _) | with_reducible apply Below.drew)
  · rw [if_neg hneg] at htm
    go_enter Try.func10, Try.ntmps10
    go_wp2_with (first | (go_at_call 14; go_must ((refine (Hid.out HR _).mono ?_); rintro e w3 ⟨rfl, hb3⟩; obtain ⟨i1, i2, hb, hz⟩ := two_boxes hb3; have I1 := hide i1; have I2 := hide i2; have HB := hide hb; clear i1 i2 hb hb3)) | ((go_at_call 23; go_must ((refine (Hid.out HO _ HB.out).mono ?_); rintro e w4 ⟨⟨sa, sc, rfl, hr4, hf4⟩, hb4⟩; have HR4 := hide hr4; have HF4 := hide hf4; have I3 := hide (I1.out.below hb4); have I4 := hide (I2.out.below hb4); have HB4 := hide (HB.out.trans (hb4.mono HB.out.size)); obtain ⟨⟨p0, p1, p2, p3⟩, f0, f1, f2, f3⟩ := I3.out.four; obtain ⟨⟨q0, q1, q2, q3⟩, g0, g1, g2, g3⟩ := I4.out.four; clear hr4 hb4 hf4)); obtain ⟨sb, so, rfl, hcell⟩ := HAT.out _ _ _ HR4.out; have hlcell := HLC.out _ HB4.out; have n0 := HF4.out _ rfl; have n1 : ¬ sb = w.heap.size := (by simp at n0; omega); have n2 : ¬ sb = w.heap.size + 1 := (by simp at n0; omega); clear n0))
    go_region
    all_goals
      go_wp2
      refine bodyPost_ret (v := .tuple #[.agg #[.slice (some ⟨lb, lo, none⟩) m p, .int .i64 c, .int .i64 ((n : Int) + 1), .int .i64 ((n : Int) + 1)], .int .i64 t, .int .i64 0]) (by simp [results, Try.results10, go_sem, p0, p1, p2, p3, q0, q1, q2, q3, hz]) rfl ?_
      refine ⟨by rw [HT.out], ?_⟩
      repeat (first | with_reducible exact HB4.out | (with_reducible refine Below.setCell (p := ⟨_, _, none⟩) ?_ (by simp) _) | with_reducible apply Below.drew)
end
end Go.Proofs.Ytjdcmeclmaljeaa.Pick
