/- All numbers of a set, as a list. -/
import Derived.Test.YtbljbhgelcakdaaDoorBitAll
import Derived.Test.YtbljbhgelcakdaaDoorBitEnv
import Derived.Test.YtbljbhgelcakdaaDoorSetBox
import Derived.Maps.AppendAt
namespace Go.Proofs.YtbljbhgelcakdaaDoor.Bit
open Go.RowKit Go.Proofs.YtbljbhgelcakdaaDoor.Dig Go.Proofs.YtbljbhgelcakdaaDoor.Mem Go.Proofs.YtbljbhgelcakdaaDoor.Sets Go.Shelf
set_option linter.unusedVariables false
set_option linter.unusedSimpArgs false
attribute [local go_sem] Oper.semAt_some

theorem least_true (m : List Bool) (f : Int) : ∀ n : Nat, (∀ j, j < n → f ≤ (j : Int) → m.getD j false = false) ∨ ∃ j, j < n ∧ f ≤ (j : Int) ∧ m.getD j false = true ∧ NoneB m f j
  | 0 => .inl fun j hj => by omega
  | n + 1 => by
    rcases least_true m f n with h | ⟨j, h1, h2⟩
    · by_cases q : f ≤ (n : Int) ∧ m.getD n false = true
      · exact .inr ⟨n, by omega, q.1, q.2, h⟩
      · refine .inl fun j hj hf => ?_
        by_cases e : j = n
        · subst e
          cases e2 : m.getD j false with
          | false => rfl
          | true => exact absurd ⟨hf, e2⟩ q
        · exact h j (by omega) hf
    · exact .inr ⟨j, by omega, h2⟩
theorem next_between {m : List Bool} {f x : Int} (h : nextB m f = x) (hx : x ≠ -1) : ∀ j : Nat, (j : Int) < x → f ≤ (j : Int) → m.getD j false = false := by
  have hc := (nextB_cases m f).resolve_left (by rw [h]; exact hx)
  rw [h] at hc
  rcases least_true m f x.toNat with q | ⟨j, h1, h2, h3, h4⟩
  · exact fun j hj hf => q j (by omega) hf
  · have := nextB_hit (m := m) (f := f) (k := j) (by omega) h3 h2 h4
    omega
theorem next_over {m : List Bool} {f : Int} (h : nextB m f = -1) : ∀ j : Nat, j < m.length → f ≤ (j : Int) → m.getD j false = false := by
  rcases least_true m f m.length with q | ⟨j, h1, h2, h3, h4⟩
  · exact q
  · have := nextB_hit (m := m) (f := f) (k := j) h1 h3 h2 h4
    omega
theorem listN_idle {m : List Bool} {k : Nat} : ∀ d, (∀ j, k ≤ j → j < k + d → m.getD j false = false) → listN m (k + d) = listN m k
  | 0, _ => rfl
  | d + 1, h => by
    rw [← Nat.add_assoc, listN_miss (h (k + d) (by omega) (by omega))]
    exact listN_idle d (fun j h1 h2 => h j h1 (by omega))
theorem listN_next {m : List Bool} {k : Nat} {x : Int} (h : nextB m (k : Int) = x) (hx : x ≠ -1) : listN m (x + 1).toNat = listN m k ++ [x] ∧ x.toNat < m.length ∧ (k : Int) ≤ x := by
  have hc := (nextB_cases m k).resolve_left (by rw [h]; exact hx)
  rw [h] at hc
  obtain ⟨X, rfl⟩ : ∃ X : Nat, x = (X : Int) := ⟨x.toNat, by omega⟩
  obtain ⟨d, rfl⟩ : ∃ d, X = k + d := ⟨X - k, by omega⟩
  have h2 := hc.2.2.2
  rw [hasB_nat] at h2
  have e : ((k + d : Nat) : Int) + 1 = ((k + d + 1 : Nat) : Int) := by omega
  refine ⟨?_, by omega, by omega⟩
  rw [e, Int.toNat_natCast, listN_hit h2, listN_idle d (fun j h3 h4 => next_between h hx j (by omega) (by omega))]
theorem listN_over {m : List Bool} {k : Nat} (hk : k ≤ m.length) (h : nextB m (k : Int) = -1) : listB m = listN m k := by
  obtain ⟨d, hd⟩ : ∃ d, m.length = k + d := ⟨m.length - k, by omega⟩
  unfold listB
  rw [hd]
  exact listN_idle d (fun j h1 h2 => next_over h j (by omega) (by omega))
/-- What has come: the numbers below k. -/
def SoFar (m : List Bool) (pre : List Int) : Prop := ∃ k : Nat, lastG pre + 1 = (k : Int) ∧ k ≤ m.length ∧ pre = listN m k
theorem SoFar.nil (m : List Bool) : SoFar m [] := ⟨0, rfl, Nat.zero_le _, rfl⟩
theorem SoFar.snoc {m : List Bool} {pre : List Int} {x : Int} (h : SoFar m pre) (h1 : nextB m (lastG pre + 1) = x) (h2 : x ≠ -1) : SoFar m (pre ++ [x]) := by
  obtain ⟨k, e, hk, rfl⟩ := h
  rw [e] at h1
  obtain ⟨q1, q2, q3⟩ := listN_next h1 h2
  exact ⟨(x + 1).toNat, by rw [lastG_snoc]; omega, by omega, q1.symm⟩
theorem SoFar.done {m : List Bool} {pre : List Int} (h : SoFar m pre) (h1 : nextB m (lastG pre + 1) = -1) : pre = listB m := by
  obtain ⟨k, e, hk, rfl⟩ := h
  rw [e] at h1
  exact (listN_over hk h1).symm
theorem SoFar.len {m : List Bool} {pre : List Int} (h : SoFar m pre) : pre.length ≤ m.length := by
  obtain ⟨k, e, hk, rfl⟩ := h
  exact Nat.le_trans (listN_le m k) hk
set_option maxRecDepth 100000 in
set_option maxHeartbeats 2000000 in
theorem appseq_any {w : World} {p : Value} {F : Nat → Prop} {m : List Bool} (B : Nat) (HT : Tab w) (h : AtI w p F m) (hB : w.cell? ⟨B, 0, none⟩ = some p) :
    Calls Tryd.prog 39 #[.slice none 0 0, .func (.func 37) #[] #[.pointer (some ⟨B, 0, none⟩)]] w fun e w' => (∃ a c, e = .returned (.slice a (listB m).length c) ∧ RowI w' a c (listB m) ∧ Fresh w.heap.size a) ∧ Below w.heap.size w w' := by
  have hml := (at_len h).1
  have H := hide h
  have HTT := hide HT
  have HBC := hide hB
  obtain ⟨i0, hi, hz0, hz1, hz2⟩ := info_parts Tryd.infoInt
  clear h HT hB
  refine (callsIn_wide (n := 3)).1 ?_
  refine callsIn_of_wp_marks Tryd.func39 rfl trivial ?_ rfl
  simp only [Tryd.ntmps39, List.size_toArray, List.length_cons, List.length_nil, Nat.reduceAdd, Nat.reduceSub, Array.replicate_succ, Array.replicate_zero, List.push_toArray, List.append_toArray, List.nil_append, List.cons_append]
  gi_wp2
  have L0 : LI 3 28 (Value.int .i64) w [] w.heap.size (.slice none 0 0) [] (w.alloc (.cells #[.slice none 0 0] 28)) := ⟨by simp, Boxed.new w 28 _, World.ownsRow_nil _ _ _ _, by decide, Nat.le_refl _, (Below.refl _ _).alloc (Nat.le_refl _) _⟩
  have hst := allc_led B p (fun pre W => SoFar m pre ∧ ∃ v, LI 3 28 (Value.int .i64) w [] w.heap.size v pre W) (fun _ => m) (fun pre W ⟨_, v, hL⟩ => ⟨(hL.below.cell (p := ⟨B, 0, none⟩) (lt_of_cell HBC.out)).trans HBC.out, HTT.out.keep hL.below, F, H.out.keep (Only.of_below (S := fun _ => False) hL.below) (fun k _ q => q)⟩)
  have hsz : (w.alloc (.cells #[.slice none 0 0] 28)).heap.size = w.heap.size + 1 := by simp
  obtain ⟨W0, hW0⟩ : ∃ W0, W0 = w.alloc (.cells #[.slice none 0 0] 28) := ⟨_, rfl⟩
  rw [← hW0] at L0 hsz ⊢
  clear hW0
  refine range_led (n := 3) rfl (by omega) rfl trivial (enters_of Tryd.func37 (by kernel_rfl) rfl) _ (fun _ _ _ => False) hst (fun _ => rfl) ?hI (fun _ _ _ _ _ hs _ _ => hs.elim) ⟨SoFar.nil m, _, L0⟩
    (fun x => { tmps := #[.slice none 0 0, .func (.func 37) #[] #[.pointer (some ⟨B, 0, none⟩)], .pointer (some ⟨w.heap.size, 0, none⟩), undef, .slice none 0 0, .int .i64 x, .func (.func 37) #[] #[.pointer (some ⟨B, 0, none⟩)], .int .i64 x, undef, undef, undef, undef, undef], defers := [] }) ?assign ?body ?done ?stop
  case hI =>
    rintro pre A V row ⟨hk, v, hL⟩ hg hr
    exact ⟨hk, v, hL.turn (by omega) hg hr⟩
  case assign =>
    intro l x W K hK
    gi_wp2
    exact hK
  case body =>
    rintro l pre x W ⟨hsf, v, hL⟩ ⟨h1, h2⟩
    have HSF := hide (hsf.snoc h1 h2)
    have hlen := hsf.len
    obtain ⟨k, hk⟩ : ∃ k, k = pre.length := ⟨_, rfl⟩
    have HK := hide hk
    have hc := hL.box.cell
    have hrow := hL.own
    rw [← hk] at hrow hlen
    have hsz2 := hL.below.size
    have HL := hide hL
    have hd : 1 ≤ 3 - 1 - 1 := by omega
    clear hsf h1 h2 hk hL
    gi_wp2_with (gi_at_builtin; refine wpListIn_append_own _ rfl _ _ 28 rfl w.heap.size 3 i0 (.int .i64 0) 1 8 Tryd.underlying28 hi hz0 hz1 hz2 rfl (by decide) _ _ _ rfl (hrow.alloc _) ⟨W.heap.size, 0, none⟩ 1 1 [.int .i64 x] rfl rfl (cell_one_new _ _ _) (by simp [Value.oneCell']) (by unfold maxLen; omega) (by omega) (by simp; omega) ?_; intro v' w3 hown' hgrow _; obtain ⟨g', cap', rfl⟩ := ownsRow_succ hown'; obtain ⟨hv1, hL3, hk3, hb3⟩ := HL.out.push (l' := pre ++ [x]) hown' (by rw [List.length_append, ← HK.out]; rfl) (by simp) hgrow; have hc1 := hv1.cell; have hf1 := hv1.frozen; have HL3 := hide hL3; have HK3 := hide hk3; clear hL3 hk3 hb3 hown' hgrow hv1)
    exact ⟨HK3.out.from _, HSF.out, _, HL3.out⟩
  case done =>
    rintro D xs W hD hS ⟨hsf, v, hL⟩ hK
    obtain rfl := hsf.done hS
    have hc := hL.box.cell
    have HL := hide hL
    have HR : Hid (∃ a c, v = .slice a (listB m).length c ∧ RowI W a c (listB m) ∧ Fresh w.heap.size a) := OwnI.row hL.own (by have := hsf.len; omega) (fun x hx => by
      rw [mem_listB] at hx
      unfold hasB at hx
      rw [Bool.and_eq_true, decide_eq_true_eq] at hx
      exact wf_small (by omega) (by omega))
    have hsz2 := hL.below.size
    clear hL hsf hS
    gi_wp2
    refine ⟨by simp, .inl ⟨_, _, rfl, run_takeDeferred hK, ?_⟩⟩
    have hbk := belowK_b (w := w) (Nat.le_refl _) W D (.deferred (some [])) (.deferred none) (by omega) hK rfl rfl
    obtain ⟨a, c, rfl, h1, h2⟩ := HR.out
    refine ⟨_, results_tmp rfl _ _ _, ⟨a, c, rfl, ?_, h2⟩, HL.out.below.trans hbk⟩
    exact h1.only (S := fun k => k = D) ⟨rfl, rfl, rfl, by simp [World.putObj], fun j hj hn => World.putObj_heap_other hn⟩ (fun hl x ex hx => by
      obtain ⟨b, off, e2, hc2⟩ := h1.at hl
      rw [ex] at e2
      cases e2
      obtain ⟨o, q1, q2⟩ := cells_of_cell hc2
      simp only at hx
      subst hx
      rw [hK] at q1
      cases q1
      cases q2)
  case stop =>
    rintro D cc pre W hD _ h _
    exact h.elim
theorem list_any {w : World} {p : Value} {F : Nat → Prop} {m : List Bool} (HT : Tab w) (h : AtI w p F m) :
    Calls Tryd.prog 14 #[p] w fun e w' => (∃ a c, e = .returned (.slice a (listB m).length c) ∧ RowI w' a c (listB m) ∧ Fresh w.heap.size a) ∧ Below w.heap.size w w' := by
  obtain ⟨_, q, rfl⟩ := at_len h
  have hb : Below w.heap.size w (w.alloc (.cells #[.pointer q] 24)) := (Below.refl _ _).alloc (Nat.le_refl _) _
  have HA := hide (appseq_any (w := w.alloc (.cells #[.pointer q] 24)) (p := .pointer q) (F := F) (m := m) w.heap.size (HT.keep hb) (h.keep (Only.of_below (S := fun _ => False) hb) (fun k _ q => q)) ((Is.made w _ _ rfl).cell 0 rfl))
  have HBB := hide hb
  clear h HT hb
  go_enter Tryd.func14, Tryd.ntmps14
  go_wp2_with (first
    | (go_at_call 23; go_must ((with_reducible refine (all_any _ _).mono ?_); rintro e w9 ⟨rfl, rfl⟩))
    | (go_at_call 39; go_must ((refine (Hid.out HA).mono ?_); rintro e w8 ⟨⟨a, c, rfl, hr, hf⟩, hb⟩; have HR := hide hr; have HF := hide hf; have HB := hide hb; clear hr hf hb))
    | go_in)
  go_ret
  exact ⟨⟨a, c, rfl, HR.out, fun x e => Nat.le_trans HBB.out.size (HF.out x e)⟩, HBB.out.trans (HB.out.mono HBB.out.size)⟩
end Go.Proofs.YtbljbhgelcakdaaDoor.Bit
