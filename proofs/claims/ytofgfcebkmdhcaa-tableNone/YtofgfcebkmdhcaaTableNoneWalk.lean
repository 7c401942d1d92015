/- TableNone, walked. -/
import Derived.Test.YtofgfcebkmdhcaaAll13
namespace Go.Proofs.Ytofgfcebkmdhcaa.Walk
open Go.RowKit Go.Proofs.Ytofgfcebkmdhcaa.Dig Go.Proofs.Ytofgfcebkmdhcaa.Mem Go.Proofs.Ytofgfcebkmdhcaa.Hist Go.Proofs.Ytofgfcebkmdhcaa.Own Go.Proofs.Ytofgfcebkmdhcaa.Thing Go.Proofs.Ytofgfcebkmdhcaa.Sets Go.Shelf Go.Proofs.Ytofgfcebkmdhcaa.Keys Go.Proofs.Ytofgfcebkmdhcaa.Tab
set_option linter.unusedVariables false
set_option linter.unusedSimpArgs false
attribute [local go_sem] Oper.semAt_some

set_option maxRecDepth 100000 in
set_option maxHeartbeats 4000000 in
theorem none_any (p : Option Addr) (a b : Int) (ha : (Lit.int .i64 a).wf = true) (hb : (Lit.int .i64 b).wf = true) (w : World) (h : TabV w (.pointer p) [] [] (tb [])) :
    Calls Try.prog 24 #[.pointer p, .int .i64 a, .int .i64 b] w fun e w' => e = .returned (.bool true) ∧ Hid (Below w.heap.size w w') := by
  have HV := hide h
  have HA := hide ha
  have HB := hide hb
  have hr71 : ∀ (p q : Option Addr) (W : World), (binOp .eql 71 (.func (.func 47) #[] #[.pointer p, .pointer q]) Value.nilFunc).run Try.prog W = .ok (.bool false) W := fun p q W => by kernel_rfl
  have hr51 : ∀ (p : Option Addr) (W : World), (binOp .eql 51 (.func (.func 65) #[] #[.pointer p]) Value.nilFunc).run Try.prog W = .ok (.bool false) W := fun p W => by kernel_rfl
  refine (callsIn_wide (n := 3)).1 ?_
  refine callsIn_of_wp_marks Try.func24 rfl trivial ?_ rfl
  simp only [Try.ntmps24, List.size_toArray, List.length_cons, List.length_nil, Nat.reduceAdd, Nat.reduceSub, Array.replicate_succ, Array.replicate_zero, List.push_toArray, List.append_toArray, List.nil_append, List.cons_append]
  clear h ha hb
  obtain ⟨w0, hw0⟩ : ∃ w0, w0 = w.alloc (.cells #[.bool false] 4) := ⟨_, rfl⟩
  have hB0 : Below w.heap.size w w0 := by rw [hw0]; exact (Below.refl _ _).alloc (Nat.le_refl _) _
  have hX0 : Is w0 w.heap.size #[.bool false] := by rw [hw0]; exact Is.made w _ _ rfl
  have CW : Hid (Calls Try.prog 18 #[.pointer p, .int .i64 a, .int .i64 b] w0 fun e w' => e = .returned (.tuple #[.agg #[.int .i64 0, .int .i64 0, .int .i64 0, .int .i64 0, .bool false], .bool false]) ∧ Hid (Below w0.heap.size w0 w')) := hide (writer_any a b (HV.out.keep hB0) HA.out HB.out)
  have HB0 := hide hB0
  have HX0 := hide hX0
  clear hB0 hX0
  subst hw0
  gi_upto_region 2 with (refine ⟨trivial, ?_⟩; gi_at_call 18; go_must ((with_reducible refine (callsIn_wide.2 (Hid.out CW)).mono ?_); rintro e w1 ⟨rfl, hb1⟩))
  have HB1 := hide (HB0.out.trans (hb1.out.mono HB0.out.size))
  have hx1 := HX0.out.below hb1.out
  have HX1 := hide hx1
  have HX2 := hide (hx1.below ((Below.refl w1.heap.size w1).alloc (Nat.le_refl _) (.cells #[.int .i64 0, .int .i64 0, .int .i64 0, .int .i64 0, .bool false] 41)))
  have HB2 := hide (HB1.out.alloc HB1.out.size (.cells #[.int .i64 0, .int .i64 0, .int .i64 0, .int .i64 0, .bool false] 41))
  have HY2 := hide (Is.made w1 #[.int .i64 0, .int .i64 0, .int .i64 0, .int .i64 0, .bool false] 41 rfl)
  generalize (w1.alloc (.cells #[.int .i64 0, .int .i64 0, .int .i64 0, .int .i64 0, .bool false] 41)) = w2 at HX2 HB2 HY2 ⊢
  have CR : Hid (Calls Try.prog 11 #[.pointer p, .int .i64 a] w2 fun e w' => e = .returned (.tuple #[.int .i64 0, .bool false]) ∧ Hid (Below w2.heap.size w2 w')) := hide (by
    refine (rank_any a (HV.out.keep HB2.out) (by decide) Rising.nil).mono ?_
    rintro e w' ⟨rfl, hb⟩
    exact ⟨by simp [rankL], hb⟩)
  gi_upto_region 3 with (refine ⟨trivial, ?_⟩; gi_at_call 11; go_must ((with_reducible refine (callsIn_wide.2 (Hid.out CR)).mono ?_); rintro e w3 ⟨rfl, hb3⟩))
  gi_upto_region 4 with (refine ⟨trivial, ?_⟩; gi_at_call 26; go_must ((with_reducible refine (callsIn_wide.2 (reads_any _ _ _)).mono ?_); rintro e w4' ⟨rfl, rfl⟩))
  obtain ⟨w4, hw4⟩ : ∃ w4, w4 = (w3.alloc (.cells #[.pointer p] 27)).alloc (.cells #[.int .i64 a] 3) := ⟨_, rfl⟩
  rw [← hw4]
  have hb34 : Below w3.heap.size w3 w4 := by rw [hw4]; exact ((Below.refl _ _).alloc (Nat.le_refl _) _).alloc (by simp) _
  have hc0 : Is w4 w3.heap.size #[.pointer p] := by rw [hw4]; exact (Is.made w3 _ _ rfl).below ((Below.refl _ _).alloc (Nat.le_refl _) _)
  have hc1 : Is w4 (w3.heap.size + 1) #[.int .i64 a] := by rw [hw4]; exact Is.made _ _ _ (by simp)
  have HB4 := hide ((HB2.out.trans (hb3.out.mono HB2.out.size)).trans (hb34.mono (by have := HB2.out.size; have := hb3.out.size; omega)))
  have HX4 := hide ((HX2.out.below hb3.out).below hb34)
  have HY4 := hide ((HY2.out.below hb3.out).below hb34)
  have CS : Hid (Calls Try.prog 22 #[.pointer p, .int .i64 a] w4 fun e w' => ∃ B, e = .returned (.func (.func 65) #[] #[.pointer (some ⟨B, 0, none⟩)]) ∧ Hid (Below w4.heap.size w4 w')) := hide (by
    refine (writes_any _ _ _ _ a w4 (HV.out.keep HB4.out) HA.out).mono ?_
    rintro e w' ⟨B, rfl, hz⟩
    exact ⟨B, rfl, hz.out.2.2⟩)
  have HC0 := hide hc0
  have HC1 := hide hc1
  clear hw4 hb34 hc0 hc1 hx1
  gi_upto_region 6 with (refine ⟨trivial, ?_⟩; gi_at_call 22; go_must ((with_reducible refine (callsIn_wide.2 (Hid.out CS)).mono ?_); rintro e w5 ⟨B, rfl, hb5⟩))
  have HB5 := hide (HB4.out.trans (hb5.out.mono HB4.out.size))
  have HX5 := hide (HX4.out.below hb5.out)
  have HY5 := hide (HY4.out.below hb5.out)
  have HC05 := hide (HC0.out.below hb5.out)
  have HC15 := hide (HC1.out.below hb5.out)
  clear CW CR CS HB0 HB1 HB2 HX0 HX1 HX2 HY2 HB4 HX4 HY4 HC0 HC1
  gi_wp2
  refine wpIn_rangeFunc_ownH (w0 := w5) (N := 0) (encs := fun _ : Unit => #[.agg #[.int .i64 0, .int .i64 0, .int .i64 0, .slice none 0 0, .slice none 0 0]]) (S := fun ys => ys = []) (Sp := fun _ => False) (Kp := Below 0) rfl (by omega) (gf := 47) (lb := #[.pointer (some ⟨w3.heap.size, 0, none⟩), .pointer (some ⟨w3.heap.size + 1, 0, none⟩)]) rfl trivial (enters_of Try.func47 (by kernel_rfl) rfl)
    (fun l J Jx W hW hJ hJx hY h0 => (readsc_nil l p a HA.out w3.heap.size (w3.heap.size + 1) W.heap.size J hJ W (HV.out.keep (HB5.out.trans (hW.mono HB5.out.size))) ((HC05.out.below hW).cell 0 rfl) ((HC15.out.below hW).cell 0 rfl) h0).mono fun e W' ⟨he, hj⟩ => ⟨he, .inl ⟨[], rfl, hj⟩⟩) belowK_t (belowK_b (Nat.zero_le _)) (Below.refl _ _) (fun _ => rfl)
    (fun _ W => Below w5.heap.size w5 W) (fun _ _ _ => False)
    (fun _ W W' row hs hg hr => hs.grown hg hs.size (fun k e => (hr k e).1))
    (fun _ _ _ _ _ hs _ _ => hs) (Below.refl _ _) (fun _ _ _ => True) (fun _ _ _ _ _ _ _ _ _ => trivial) ?assign ?body ?done ?stop
  case assign =>
    intro l pre x W K hi hK
    gi_wp2
    exact hK _ _ ((KeepsOthers.alloc _ _).from _) ((Below.refl 0 W).alloc (Nat.zero_le _) _) (hi.alloc hi.size _) trivial
  case body =>
    intro l pre x a' W _ _ _ _ hlt
    exact absurd hlt (Nat.not_lt_zero _)
  case done =>
    intro D ys W hD hS hi hDf
    have HBW := hide (HB5.out.trans (hi.mono HB5.out.size))
    have hxw := HX5.out.below hi
    have hyw := HY5.out.below hi
    have HXW := hide hxw
    have y0 : W.cell? ⟨w1.heap.size, 0, none⟩ = some (.int .i64 0) := hyw.cell 0 rfl
    have y1 : W.cell? ⟨w1.heap.size, 1, none⟩ = some (.int .i64 0) := hyw.cell 1 rfl
    have y2 : W.cell? ⟨w1.heap.size, 2, none⟩ = some (.int .i64 0) := hyw.cell 2 rfl
    have y3 : W.cell? ⟨w1.heap.size, 3, none⟩ = some (.int .i64 0) := hyw.cell 3 rfl
    have y4 : W.cell? ⟨w1.heap.size, 4, none⟩ = some (.bool false) := hyw.cell 4 rfl
    have HDF := hide hDf
    have hweq := fun W => wrEq W 0 0 0 0 false
    have htb : Hid ((tb []).ap (a, b) = []) := hide rfl
    clear hxw hyw hDf hi
    gi_wp2_with (first
      | (refine ⟨trivial, ?_⟩; gi_at_call 14; go_must ((with_reducible refine (callsIn_wide.2 (ids_any (HV.out.keep HBW.out) (by decide))).mono ?_); rintro e w6 ⟨i1, il, i2, rfl, hq, hb6⟩; obtain rfl : il = 0 := hq.out.1; have HB6 := hide (HBW.out.trans (hb6.out.mono HBW.out.size))))
      | (refine ⟨trivial, ?_⟩; gi_at_call 16; go_must ((with_reducible refine (callsIn_wide.2 (keys_any (HV.out.keep HB6.out) (by decide))).mono ?_); rintro e w7 ⟨k1, kl, k2, rfl, hq2, hb7⟩; obtain rfl : kl = 0 := hq2.out.1; have HB7 := hide (HB6.out.trans (hb7.out.mono HB6.out.size))))
      | (refine ⟨trivial, ?_⟩; gi_at_call 20; go_must ((with_reducible refine (callsIn_wide.2 (apps_any a b (HV.out.keep HB7.out) HA.out HB.out (by rw [htb.out]; decide))).mono ?_); rintro e w8 ⟨p1, pl, p2, rfl, hq3, hb8⟩; obtain rfl : pl = 0 := hq3.out.1; have HB8 := hide (HB7.out.trans (hb8.out.mono HB7.out.size)); have hx8 := ((HXW.out.below hb6.out).below hb7.out).below hb8.out; have r8 : w8.cell? ⟨w.heap.size, 0, none⟩ = some (.bool false) := hx8.cell 0 rfl; have rf8 := hx8.frozen 0)))
    have hsz : w.heap.size < w5.heap.size := HX5.out.lt
    have hdl : D < W.heap.size := by
      rcases Nat.lt_or_ge D W.heap.size with q | q
      · exact q
      · have := HDF.out; rw [Array.getElem?_eq_none q] at this; cases this
    have s6 := hb6.out.size
    have s7 := hb7.out.size
    have d8 : w8.heap[D]? = some (.deferred (some [])) := (hb8.out.block D (by omega)).trans ((hb7.out.block D (by omega)).trans ((hb6.out.block D hdl).trans HDF.out))
    have d9 : (w8.setCell ⟨w.heap.size, 0, none⟩ (.bool true)).heap[D]? = some (.deferred (some [])) := (Below.heap_setCell _ _ _ _ (by show D ≠ w.heap.size; omega)).trans d8
    have hx9 : Is (w8.setCell ⟨w.heap.size, 0, none⟩ (.bool true)) w.heap.size #[.bool true] := (hx8.set 0 (.bool true)).eq rfl
    have hb9 : Below w.heap.size w (w8.setCell ⟨w.heap.size, 0, none⟩ (.bool true)) := HB8.out.setCell (Nat.le_refl _) _
    refine ⟨by simp, .inl ⟨_, _, rfl, run_takeDeferred d9, ?_⟩⟩
    have hg := grownBy_putObj' (w8.setCell ⟨w.heap.size, 0, none⟩ (.bool true)) D (.deferred none)
    have hxf := hx9.keep (S := fun k => some D = some k) ⟨hg.os, hg.tape, hg.output, hg.size, fun k hk hn => hg.block k hk (fun e => hn e.symm)⟩ (fun e => by cases e; omega)
    have hcf := hxf.cell 0 rfl
    have hbf := hb9.grown hg (by have := HB8.out.size; simpa [World.setCell] using this) (fun k e => by cases e; omega)
    exact ⟨.bool true, by simp [results, Try.f24, go_sem, hcf], rfl, hbf⟩
  case stop =>
    intro D c pre W _ h _ _
    exact h.elim
set_option maxRecDepth 100000 in
set_option maxHeartbeats 4000000 in
theorem walk_tableNone (w : World) (a : Int) (ha : (Lit.int .i64 a).wf = true) (b : Int) (hb : (Lit.int .i64 b).wf = true) : Calls Try.prog 6 #[.int .i64 a, .int .i64 b] w fun e w' => e = .returned (.bool true) ∧ Below w.heap.size w w' := by
  have C1 := hide (none_any none a b ha hb w (.inl ⟨rfl, rfl, rfl, rfl⟩))
  have HA := hide ha
  have HB := hide hb
  clear ha hb
  go_enter Try.func6, Try.ntmps6
  go_wp2_with (first
    | (go_at_call 24; go_must (first
        | ((with_reducible refine (Hid.out C1).mono ?_); rintro e w1 ⟨rfl, hb1⟩; have C2 := hide (none_any (some ⟨w1.heap.size, 0, none⟩) a b HA.out HB.out (w1.alloc (.cells #[.slice none 0 0, .slice none 0 0, .map none, .map none, .map none, .map none] 62)) (.inr ⟨_, rfl, vw_bare _ (Is.made _ _ _ rfl)⟩)))
        | ((with_reducible refine (Hid.out C2).mono ?_); rintro e w2 ⟨rfl, hb2⟩)))
    | (go_at_call 8; go_must ((with_reducible refine (works12_any _).mono ?_); rintro e w3 ⟨rfl, hb3⟩)))
  go_ret
  have hm := hb1.out.alloc hb1.out.size (.cells #[.slice none 0 0, .slice none 0 0, .map none, .map none, .map none, .map none] 62)
  have hn := hm.trans (hb2.out.mono hm.size)
  exact ⟨rfl, hn.trans (hb3.mono hn.size)⟩
end Go.Proofs.Ytofgfcebkmdhcaa.Walk
