/- Whether all that is in a set is in another one. -/
import Derived.Test.YtbljbhgelcakdaaDoorBitFrom
import Derived.Laws.BitsAllLaws
namespace Go.Proofs.YtbljbhgelcakdaaDoor.Bit
open Go.RowKit Go.Proofs.YtbljbhgelcakdaaDoor.Dig Go.Proofs.YtbljbhgelcakdaaDoor.Mem Go.Shelf
set_option linter.unusedVariables false
set_option linter.unusedSimpArgs false
attribute [local go_sem] Oper.semAt_some

/-- The bits of x without those of y. -/
def andn (x y : Nat) : Nat := x &&& (18446744073709551615 - y)
theorem andn_bit {x y : Nat} (hx : x < 18446744073709551616) (hy : y < 18446744073709551616) (i : Nat) : (andn x y).testBit i = (x.testBit i && !y.testBit i) := by
  unfold andn
  rw [Nat.testBit_and, show 18446744073709551615 - y = 2 ^ 64 - (y + 1) by omega, Nat.testBit_two_pow_sub_succ (by omega)]
  by_cases h : i < 64
  · simp [h]
  · have : x.testBit i = false := Nat.testBit_lt_two_pow (Nat.lt_of_lt_of_le hx (by have := Nat.pow_le_pow_right (n := 2) (by decide) (show 64 ≤ i by omega); omega))
    simp [this]
theorem andn_lt {x y : Nat} (hx : x < 18446744073709551616) : andn x y < 18446744073709551616 := Nat.lt_of_le_of_lt Nat.and_le_left hx
theorem bits_andn {x y : Nat} (hx : x < 18446744073709551616) (hy : y < 18446744073709551616) : bits .andNot .u64 (x : Int) (y : Int) = ((andn x y : Nat) : Int) := u64_andNot_nat x y hx hy
theorem andn_zero {x y : Nat} (hx : x < 18446744073709551616) (hy : y < 18446744073709551616) : andn x y = 0 ↔ ∀ i, x.testBit i = true → y.testBit i = true := by
  constructor
  · intro h i hi
    have := andn_bit hx hy i
    rw [h, Nat.zero_testBit, hi] at this
    simpa using this.symm
  · intro h
    apply Nat.eq_of_testBit_eq
    intro i
    rw [andn_bit hx hy, Nat.zero_testBit]
    cases e : x.testBit i
    · rfl
    · rw [h i e]; rfl
set_option maxRecDepth 100000 in
set_option maxHeartbeats 2000000 in
theorem in_s {w : World} {p p2 : Value} {F F2 : Nat → Prop} {n c n2 c2 : Nat} {ws us : List Nat} (h : SetI w p F n c ws) (h2 : SetI w p2 F2 n2 c2 us) (r : Bool) (hr : (r = true) ↔ ∀ i, i < c → andn (ws.getD i 0) (us.getD i 0) = 0) :
    Calls Tryd.prog 38 #[p, p2] w fun e w' => e = .returned (.bool r) ∧ Below w.heap.size w w' := by
  obtain ⟨f1, f2, f3, f4, f5, f6, ⟨q, rfl⟩, f7⟩ := h.facts
  obtain ⟨e1, e2, e3, e4, e5, e6, ⟨q2, rfl⟩, e7⟩ := h2.facts
  have HS := hide h
  have HS2 := hide h2
  have HR := hide hr
  clear h h2 f6 f7 e6 e7 hr
  refine (callsIn_wide (n := 3)).1 ?_
  refine callsIn_of_wp_marks Tryd.func38 rfl trivial ?_ rfl
  simp only [Tryd.ntmps38, List.size_toArray, List.length_cons, List.length_nil, Nat.reduceAdd, Nat.reduceSub, Array.replicate_succ, Array.replicate_zero, List.push_toArray, List.append_toArray, List.nil_append, List.cons_append]
  gi_wp2_with (refine ⟨trivial, ?_⟩; gi_at_call 33; go_must ((with_reducible refine (callsIn_wide.2 (from_any _ _ _)).mono ?_); rintro e w9 ⟨rfl, rfl⟩))
  obtain ⟨W0, hW0⟩ : ∃ W0, W0 = (((w.alloc (.cells #[.pointer q2] 24)).alloc (.cells #[.bool false] 4)).alloc (.cells #[.pointer q] 24)).alloc (.cells #[.int .i64 0] 3) := ⟨_, rfl⟩
  have hsz : W0.heap.size = w.heap.size + 4 := by rw [hW0]; simp
  have F0 : Fr w [(w.heap.size + 1, #[.bool false]), (w.heap.size, #[.pointer q2]), (w.heap.size + 1 + 1, #[.pointer q]), (w.heap.size + 1 + 1 + 1, #[.int .i64 0])] W0 := by
    rw [hW0]
    refine Fr.sub ((((Fr.start w).push #[.pointer q2] _ (b := w.heap.size) rfl |>.push #[.bool false] _ (b := w.heap.size + 1) (by simp)).push #[.pointer q] _ (b := w.heap.size + 1 + 1) (by simp)).push #[.int .i64 0] _ (b := w.heap.size + 1 + 1 + 1) (by simp)) (fun r hr => ?_)
    simp only [List.mem_cons, List.not_mem_nil, or_false] at hr ⊢
    rcases hr with rfl | rfl | rfl | rfl <;> simp
  rw [← hW0]
  clear hW0
  have hst := from_still HS.out (w.heap.size + 1 + 1) (w.heap.size + 1 + 1 + 1) 0 (fun pre W => (∀ k : Nat, (k : Int) ∈ pre → andn (ws.getD k 0) (us.getD k 0) = 0) ∧ Fr w [(w.heap.size + 1, #[.bool false]), (w.heap.size, #[.pointer q2]), (w.heap.size + 1 + 1, #[.pointer q]), (w.heap.size + 1 + 1 + 1, #[.int .i64 0])] W) (by omega) (fun pre W ⟨_, hF⟩ => ⟨(hF.one (b := w.heap.size + 1 + 1) (v := .pointer q) (by simp)).1, (hF.one (b := w.heap.size + 1 + 1 + 1) (v := .int .i64 0) (by simp)).1, HS.out.below hF.below⟩)
  refine range_led (n := 3) rfl (by omega) rfl trivial (enters_of Tryd.func40 (by kernel_rfl) rfl) _ (fun cc pre W => cc = .ret ∧ r = false ∧ Fr w [(w.heap.size + 1, #[.bool false])] W) hst (fun _ => rfl) ?hI ?hIx ⟨fun k hk => by simp at hk, F0⟩
    (fun x => { tmps := #[.pointer q, .pointer q2, undef, .pointer (some ⟨w.heap.size, 0, none⟩), .pointer (some ⟨w.heap.size + 1, 0, none⟩), .int .i64 x, .int .u64 ((ws.getD x.toNat 0 : Nat) : Int), .pointer q, .func (.func 40) #[] #[.pointer (some ⟨w.heap.size + 1 + 1, 0, none⟩), .pointer (some ⟨w.heap.size + 1 + 1 + 1, 0, none⟩)], .int .i64 x, .int .u64 ((ws.getD x.toNat 0 : Nat) : Int), undef, undef, undef, undef, undef, undef], defers := [] }) ?assign ?body ?done ?stop
  case hI =>
    rintro pre A V row ⟨hk, hF⟩ hg hr
    exact ⟨hk, hF.off (by omega) hg hr⟩
  case hIx =>
    rintro cc pre A V row ⟨hk, hr', hF⟩ hg hr
    exact ⟨hk, hr', hF.off (by omega) hg hr⟩
  case assign =>
    intro l x W K hK
    simp only [encW]
    gi_wp2
    exact hK
  case body =>
    rintro l pre x W ⟨hz, hF⟩ ⟨k, rfl, _, hk, hx, e⟩
    have hk1 := (hF.one (b := w.heap.size) (v := .pointer q2) (by simp)).1
    have hk2 := (hF.one (b := w.heap.size + 1) (v := .bool false) (by simp))
    have hK1 := hk2.1
    have hK2 := hk2.2
    have hx2 := f5 k
    have hy2 := e5 k
    obtain ⟨y, hy⟩ : ∃ y, y = ws.getD k 0 := ⟨_, rfl⟩
    obtain ⟨u, hu⟩ : ∃ u, u = us.getD k 0 := ⟨_, rfl⟩
    have HF := hide hF
    have HZ := hide hz
    have HWD := hide (word_s (HS2.out.below hF.below) k (by omega))
    simp only [Int.toNat_natCast]
    rw [← hy] at hx2 ⊢
    rw [← hu] at hy2 HWD
    have HE := hide (bits_andn hx2 hy2)
    obtain ⟨z, hz'⟩ : ∃ z, z = andn y u := ⟨_, rfl⟩
    rw [← hz'] at HE
    have hEE : bits .andNot .u64 (y : Int) (u : Int) = (z : Int) := HE.out
    have hd : 1 ≤ 3 - 1 - 1 := by omega
    have HY := hide hy
    have HU := hide hu
    have HZ2 := hide hz'
    clear hy hu hz' hz hF e hk2
    by_cases h0 : z = 0
    · subst h0
      gi_wp2_with (refine ⟨trivial, ?_⟩; gi_at_call 35; go_must ((refine (CallsIn.inRound l (callsIn_wide.2 (Hid.out HWD))).mono ?_); rintro e w1 ⟨rfl, rfl⟩))
      refine ⟨KeepsFrom.refl _ _, ⟨fun j hj => ?_, HF.out⟩⟩
      rcases List.mem_append.1 hj with q | q
      · exact HZ.out j q
      · have : j = k := by have := List.mem_singleton.1 q; omega
        subst this
        rw [← HY.out, ← HU.out]
        exact HZ2.out.symm
    · have h0' : ¬ (z : Int) = 0 := by omega
      gi_wp2_with (refine ⟨trivial, ?_⟩; gi_at_call 35; go_must ((refine (CallsIn.inRound l (callsIn_wide.2 (Hid.out HWD))).mono ?_); rintro e w1 ⟨rfl, rfl⟩))
      have hr' : r = false := by
        cases hrr : r with
        | false => rfl
        | true =>
          have := HR.out.1 hrr k hk
          rw [← HY.out, ← HU.out, ← HZ2.out] at this
          exact absurd this h0
      exact ⟨(KeepsOthers.setCell w1 _ _).from _, rfl, hr', (HF.out.set (by omega) (by simp; omega) (u := .bool false)).sub (fun r hr => by simp only [List.mem_cons, List.not_mem_nil, or_false] at hr ⊢; exact .inl hr)⟩
  case done =>
    rintro D xs W hD rfl ⟨hz, hF⟩ hK
    have hr' : r = true := HR.out.2 (fun i hi => by
      by_cases h0 : ws.getD i 0 = 0
      · rw [h0]; unfold andn; simp
      · exact hz i (mem_upW.2 ⟨i, rfl, Nat.zero_le _, hi, h0⟩))
    have hk2 := hF.one (b := w.heap.size + 1) (v := .bool false) (by simp)
    have hK1 := hk2.1
    have hK2 := hk2.2
    have HB := hide hF.below
    have hsz2 := hF.below.size
    subst hr'
    clear hz hF hk2
    gi_wp2
    have hK' := (KeepsOthers.setCell W ⟨w.heap.size + 1, 0, none⟩ (.bool true)).same D _ hK rfl
    refine ⟨by simp, .inl ⟨_, _, rfl, run_takeDeferred hK', ?_⟩⟩
    have hc := cell_kept (World.cell?_setCell_same' W ⟨w.heap.size + 1, 0, none⟩ (.bool true) (by rw [hK1]; rfl)) (grownBy_putObj' _ D (.deferred none)) (fun r e => by cases e; exact ⟨_, hK', rfl⟩)
    exact ⟨.bool true, by simp [results, Tryd.f38, go_sem, hc], rfl, (HB.out.setCell (p := ⟨w.heap.size + 1, 0, none⟩) (by simp) _).trans (belowK_b (w := w) (Nat.le_refl _) _ D _ _ (by omega) hK' rfl rfl)⟩
  case stop =>
    rintro D cc pre W hD _ ⟨rfl, rfl, hF⟩ hK
    have hK1 := (hF.one (b := w.heap.size + 1) (v := .bool false) (by simp)).1
    have HB := hide hF.below
    clear hF
    gi_wp2
    refine ⟨by simp, .inl ⟨_, _, rfl, run_takeDeferred hK, ?_⟩⟩
    have hc := cell_kept hK1 (grownBy_putObj' W D (.deferred none)) (fun r e => by cases e; exact ⟨_, hK, rfl⟩)
    exact ⟨.bool false, by simp [results, Tryd.f38, go_sem, hc], rfl, HB.out.trans (belowK_b (w := w) (Nat.le_refl _) W D _ _ (by omega) hK rfl rfl)⟩
/-- All of one set's numbers are in the other one: word by word. -/
theorem in_words {w : World} {p p2 : Value} {F F2 : Nat → Prop} {n c n2 c2 : Nat} {ws us : List Nat} (h : SetI w p F n c ws) (h2 : SetI w p2 F2 n2 c2 us) : (∀ i, i < c → andn (ws.getD i 0) (us.getD i 0) = 0) ↔ ∀ x : Int, hasB (bitsW n ws) x = true → hasB (bitsW n2 us) x = true := by
  obtain ⟨f1, f2, f3, f4, f5, f6, _, _⟩ := h.facts
  obtain ⟨e1, e2, e3, e4, e5, e6, _, _⟩ := h2.facts
  have has : ∀ (n : Nat) (ws : List Nat) (k : Nat), Tight n ws → (hasB (bitsW n ws) (k : Int) = true ↔ (ws.getD (k / 64) 0).testBit (k % 64) = true) := fun n ws k ht => by
    rw [hasB_nat]
    by_cases hk : k < n
    · rw [bitsW_getD hk]
    · rw [ht k (by omega), List.getD_eq_getElem?_getD, List.getElem?_eq_none (by rw [bitsW_length]; omega)]
      rfl
  constructor
  · intro hz x hx
    have hx' := hx
    unfold hasB at hx'
    rw [Bool.and_eq_true, decide_eq_true_eq, bitsW_length] at hx'
    obtain ⟨k, rfl⟩ : ∃ k : Nat, x = (k : Int) := ⟨x.toNat, by omega⟩
    rw [has n ws k f6] at hx
    rw [has n2 us k e6]
    have := hz (k / 64) (by omega)
    rw [andn_zero (f5 _) (e5 _)] at this
    exact this _ hx
  · intro hz i hi
    rw [andn_zero (f5 _) (e5 _)]
    intro j hj
    have hj64 : j < 64 := by
      apply Nat.lt_of_not_le
      intro q
      rw [Nat.testBit_lt_two_pow (Nat.lt_of_lt_of_le (f5 i) (by have := Nat.pow_le_pow_right (n := 2) (by decide) q; omega))] at hj
      cases hj
    have d1 : (64 * i + j) / 64 = i := by omega
    have d2 : (64 * i + j) % 64 = j := by omega
    have := hz ((64 * i + j : Nat) : Int)
    rw [has n ws _ f6, has n2 us _ e6, d1, d2] at this
    exact this hj
theorem same_s {w : World} {p p2 : Value} {F F2 : Nat → Prop} {n c n2 c2 : Nat} {ws us : List Nat} (h : SetI w p F n c ws) (h2 : SetI w p2 F2 n2 c2 us) :
    Calls Tryd.prog 26 #[p, p2] w fun e w' => e = .returned (.bool (decide (listB (bitsW n ws) = listB (bitsW n2 us)))) ∧ Below w.heap.size w w' := by
  obtain ⟨r1, hr1⟩ : ∃ r : Bool, (r = true) ↔ ∀ i, i < c → andn (ws.getD i 0) (us.getD i 0) = 0 := ⟨decide (∀ i, i < c → andn (ws.getD i 0) (us.getD i 0) = 0), by simp only [decide_eq_true_eq]⟩
  obtain ⟨r2, hr2⟩ : ∃ r : Bool, (r = true) ↔ ∀ i, i < c2 → andn (us.getD i 0) (ws.getD i 0) = 0 := ⟨decide (∀ i, i < c2 → andn (us.getD i 0) (ws.getD i 0) = 0), by simp only [decide_eq_true_eq]⟩
  have hr : decide (listB (bitsW n ws) = listB (bitsW n2 us)) = (r1 && r2) := by
    rw [Bool.eq_iff_iff, decide_eq_true_eq, Bool.and_eq_true, hr1, hr2, in_words h h2, in_words h2 h]
    constructor
    · intro e
      exact ⟨fun x hx => by rw [← mem_listB] at hx ⊢; rw [← e]; exact hx, fun x hx => by rw [← mem_listB] at hx ⊢; rw [e]; exact hx⟩
    · rintro ⟨a, b⟩
      exact listB_congr (fun x => by rw [Bool.eq_iff_iff]; exact ⟨a x, b x⟩)
  rw [hr]
  obtain ⟨q, rfl⟩ := h.facts.2.2.2.2.2.2.1
  obtain ⟨q2, rfl⟩ := h2.facts.2.2.2.2.2.2.1
  have HS1 := hide (in_s h h2 r1 hr1)
  have HS2 := hide (fun w' (hb : Below w.heap.size w w') => in_s (h2.below hb) (h.below hb) r2 hr2)
  clear hr hr1 hr2 h h2
  cases r1
  · go_enter Tryd.func26, Tryd.ntmps26
    go_wp2_with (go_at_call 38; go_must ((with_reducible refine (Hid.out HS1).mono ?_); rintro e w1 ⟨rfl, hb⟩; have HB := hide hb; clear hb))
    go_ret
    exact ⟨rfl, HB.out⟩
  · go_enter Tryd.func26, Tryd.ntmps26
    go_wp2_with (first | (go_at_call 38; (with_reducible refine (Hid.out HS1).mono ?_); go_must (clear HS1; rintro e w1 ⟨rfl, hb⟩; have HB := hide hb; have HS3 := hide (HS2.out w1 hb); clear hb)) | (go_at_call 38; (with_reducible refine (Hid.out HS3).mono ?_); go_must (clear HS3; rintro e w2 ⟨rfl, hb⟩; have HB2 := hide hb; clear hb)))
    go_ret
    exact ⟨rfl, HB.out.trans (HB2.out.mono HB.out.size)⟩
end Go.Proofs.YtbljbhgelcakdaaDoor.Bit
