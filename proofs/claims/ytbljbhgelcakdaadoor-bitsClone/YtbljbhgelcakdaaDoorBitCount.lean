/- How many there are. -/
import Derived.Test.YtbljbhgelcakdaaDoorBitFrom
namespace Go.Proofs.YtbljbhgelcakdaaDoor.Bit
open Go.RowKit Go.Proofs.YtbljbhgelcakdaaDoor.Dig Go.Proofs.YtbljbhgelcakdaaDoor.Mem Go.Shelf
set_option linter.unusedVariables false
set_option linter.unusedSimpArgs false
attribute [local go_sem] Oper.semAt_some

def sumW (ws : List Nat) (pre : List Int) : Nat := (pre.map fun x : Int => popK 64 (ws.getD x.toNat 0)).sum
theorem popK_le (x : Nat) : popK 64 x ≤ 64 := by
  unfold popK
  exact Nat.le_trans (List.length_filter_le _ _) (by simp)
theorem popK_none : popK 64 0 = 0 := by simp [popK]
theorem sumW_up (ws : List Nat) : ∀ k, k ≤ ws.length → sumW ws (upW ws 0 k) = ((ws.take k).map (popK 64)).sum
  | 0, _ => by rw [upW_zero]; rfl
  | k + 1, hk => by
    have ih := sumW_up ws k (by omega)
    have e : ws.getD k 0 = ws[k] := by rw [List.getD_eq_getElem?_getD, List.getElem?_eq_getElem (by omega)]; rfl
    rw [List.take_add_one, List.getElem?_eq_getElem (by omega : k < ws.length), List.map_append, List.sum_append, ← ih]
    by_cases h : ws.getD k 0 = 0
    · rw [upW_miss h]
      have : popK 64 ws[k] = 0 := by rw [← e, h]; exact popK_none
      simp [this]
    · rw [upW_hit (Nat.zero_le _) h]
      simp [sumW, e, -List.getD_eq_getElem?_getD]
theorem sumW_le (ws : List Nat) (k : Nat) (hk : k ≤ ws.length) : sumW ws (upW ws 0 k) ≤ 64 * k := by
  rw [sumW_up ws k hk]
  clear hk
  induction k generalizing ws with
  | zero => simp
  | succ k ih =>
    cases ws with
    | nil => simp
    | cons x ws => simp only [List.take_succ_cons, List.map_cons, List.sum_cons]; have := ih ws; have := popK_le x; omega
theorem sumW_snoc (ws : List Nat) (pre : List Int) (k : Nat) : sumW ws (pre ++ [(k : Int)]) = sumW ws pre + popK 64 (ws.getD k 0) := by simp [sumW]
set_option maxRecDepth 100000 in
set_option maxHeartbeats 2000000 in
theorem count_s {w : World} {p : Value} {F : Nat → Prop} {n c : Nat} {ws : List Nat} (h : SetI w p F n c ws) :
    Calls Tryd.prog 16 #[p] w fun e w' => e = .returned (.int .i64 ((listB (bitsW n ws)).length : Int)) ∧ Below w.heap.size w w' := by
  obtain ⟨f1, f2, f3, f4, f5, f6, ⟨q, rfl⟩, f7⟩ := h.facts
  have HS := hide h
  have HW := hide (count_words (by rw [f1] at f4; exact f4) f6)
  clear h f6 f7
  refine (callsIn_wide (n := 3)).1 ?_
  refine callsIn_of_wp_marks Tryd.func16 rfl trivial ?_ rfl
  simp only [Tryd.ntmps16, List.size_toArray, List.length_cons, List.length_nil, Nat.reduceAdd, Nat.reduceSub, Array.replicate_succ, Array.replicate_zero, List.push_toArray, List.append_toArray, List.nil_append, List.cons_append]
  gi_wp2_with (refine ⟨trivial, ?_⟩; gi_at_call 33; go_must ((with_reducible refine (callsIn_wide.2 (from_any _ _ _)).mono ?_); rintro e w9 ⟨rfl, rfl⟩))
  obtain ⟨W0, hW0⟩ : ∃ W0, W0 = ((w.alloc (.cells #[.int .i64 0] 3)).alloc (.cells #[.pointer q] 24)).alloc (.cells #[.int .i64 0] 3) := ⟨_, rfl⟩
  have hsz : W0.heap.size = w.heap.size + 3 := by rw [hW0]; simp
  have F0 : Fr w [(w.heap.size, #[.int .i64 0]), (w.heap.size + 1, #[.pointer q]), (w.heap.size + 1 + 1, #[.int .i64 0])] W0 := by
    rw [hW0]
    refine ⟨(below2 w _ _).alloc (by simp; omega) _, fun r hr => ?_⟩
    simp only [List.mem_cons, List.not_mem_nil, or_false] at hr
    rcases hr with rfl | rfl | rfl
    · exact ((Is.made w _ _ rfl).alloc _).alloc _
    · exact (Is.made _ _ _ (by simp)).alloc _
    · exact Is.made _ _ _ (by simp)
  rw [← hW0]
  clear hW0
  have hst := from_still HS.out (w.heap.size + 1) (w.heap.size + 1 + 1) 0 (fun pre W => ∃ k, k ≤ c ∧ pre = upW ws 0 k ∧ Fr w [(w.heap.size, #[.int .i64 (sumW ws pre : Nat)]), (w.heap.size + 1, #[.pointer q]), (w.heap.size + 1 + 1, #[.int .i64 0])] W) (by omega) (fun pre W ⟨k, _, _, hF⟩ => ⟨(hF.one (b := w.heap.size + 1) (v := .pointer q) (by simp)).1, (hF.one (b := w.heap.size + 1 + 1) (v := .int .i64 0) (by simp)).1, HS.out.below hF.below⟩)
  refine range_led (n := 3) rfl (by omega) rfl trivial (enters_of Tryd.func40 (by kernel_rfl) rfl) _ (fun _ _ _ => False) hst (fun _ => rfl) ?hI (fun _ _ _ _ _ hs _ _ => hs.elim) ⟨0, by omega, (upW_zero _ _).symm, F0⟩
    (fun x => { tmps := #[.pointer q, undef, .int .i64 0, .pointer (some ⟨w.heap.size, 0, none⟩), undef, .int .u64 ((ws.getD x.toNat 0 : Nat) : Int), .pointer q, .func (.func 40) #[] #[.pointer (some ⟨w.heap.size + 1, 0, none⟩), .pointer (some ⟨w.heap.size + 1 + 1, 0, none⟩)], .int .i64 x, .int .u64 ((ws.getD x.toNat 0 : Nat) : Int), undef, undef, undef, undef, undef], defers := [] }) ?assign ?body ?done ?stop
  case hI =>
    rintro pre A V row ⟨k, hk, e, hF⟩ hg hr
    exact ⟨k, hk, e, hF.off (by omega) hg hr⟩
  case assign =>
    intro l x W K hK
    simp only [encW]
    gi_wp2
    exact hK
  case body =>
    rintro l pre x W ⟨k0, hk0, e0, hF⟩ ⟨k, rfl, _, hk, hx, e⟩
    have hk1 := hF.one (b := w.heap.size) (v := .int .i64 (sumW ws pre : Nat)) (by simp)
    have hx2 := f5 k
    have hs := sumW_le ws k (by omega)
    rw [← e] at hs
    have hp := popK_le (ws.getD k 0)
    have HN := hide (sumW_snoc ws pre k)
    have HU : Hid (upW ws 0 (k + 1) = pre ++ [(k : Int)]) := hide (by rw [e]; exact upW_hit (Nat.zero_le _) hx)
    have HF := hide hF
    obtain ⟨s, hs'⟩ : ∃ s, s = sumW ws pre := ⟨_, rfl⟩
    obtain ⟨y, hy⟩ : ∃ y, y = ws.getD k 0 := ⟨_, rfl⟩
    obtain ⟨z, hz⟩ : ∃ z, z = popK 64 (ws.getD k 0) := ⟨_, rfl⟩
    rw [← hz] at hp HN
    rw [← hs'] at hk1 hs HN HF
    simp only [Int.toNat_natCast]
    rw [← hy] at hx2 ⊢
    have HO : Hid (Calls Tryd.prog 34 #[.int .u64 (y : Int)] W fun e w' => e = .returned (.int .i64 (z : Nat)) ∧ w' = W) := hide (by rw [hz, ← hy]; exact ones_any y W hx2)
    have HZ : Hid (∀ W', Fr w [(w.heap.size, #[.int .i64 (s : Nat)]), (w.heap.size + 1, #[.pointer q]), (w.heap.size + 1 + 1, #[.int .i64 0])] W' → Calls Tryd.prog 34 #[.int .u64 (y : Int)] W' fun e w' => e = .returned (.int .i64 (z : Nat)) ∧ w' = W') := hide (fun W' _ => by rw [hz, ← hy]; exact ones_any y W' hx2)
    have hd : 1 ≤ 3 - 1 - 1 := by omega
    have hmx : Tryd.prog.follows .mixedOrders = true := by kernel_rfl
    clear hy hz hs' e e0 hF HO
    have hK1 := hk1.1
    have hK2 := hk1.2
    clear hk1
    gi_wp2
    gi_region_with_o (refine ⟨trivial, ?_⟩; gi_at_call 34; go_must ((refine (CallsIn.inRound l (callsIn_wide.2 (HZ.out _ (HF.out.keep (by repeat (first | exact Below.refl _ _ | apply Below.drew)))))).mono ?_); rintro e w1 ⟨rfl, rfl⟩))
    all_goals
      have e2 : IntKind.i64.wrap ((s : Int) + (z : Int)) = ((s + z : Nat) : Int) := by rw [IntKind.wrap_i64]; omega
      refine ⟨⟨by simp [World.setCell], fun j o _ hj ho => ?_⟩, ⟨k + 1, by omega, HU.out.symm, ?_⟩⟩
      · exact ((KeepsOthers.setCell W _ _).from 0).same _ _ (Nat.zero_le _) hj ho
      · rw [HN.out, e2]
        exact ((HF.out.set (Nat.le_refl _) (by simp; omega) (u := .int .i64 ((s + z : Nat) : Int))).keep (Below.refl _ _).drew)
  case done =>
    rintro D xs W hD rfl ⟨k, hk, e, hF⟩ hK
    have hk1 := (hF.one (b := w.heap.size) (v := .int .i64 (sumW ws (upW ws 0 c) : Nat)) (by simp)).1
    have e2 : sumW ws (upW ws 0 c) = (listB (bitsW n ws)).length := by rw [HW.out, f1, sumW_up ws ws.length (Nat.le_refl _), List.take_length]
    have HB := hide hF.below
    rw [e2] at hk1
    clear hF e e2
    gi_wp2
    refine ⟨by simp, .inl ⟨_, _, rfl, run_takeDeferred hK, ?_⟩⟩
    exact ⟨_, results_tmp rfl _ _ _, rfl, HB.out.trans (belowK_b (w := w) (Nat.le_refl _) W D _ _ (by omega) hK rfl rfl)⟩
  case stop =>
    rintro D cc pre W hD _ h _
    exact h.elim
end Go.Proofs.YtbljbhgelcakdaaDoor.Bit
