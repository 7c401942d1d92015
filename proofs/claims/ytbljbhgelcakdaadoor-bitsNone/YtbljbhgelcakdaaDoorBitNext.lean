/- The least number of a set from one on. -/
import Derived.Test.YtbljbhgelcakdaaDoorBitIn
namespace Go.Proofs.YtbljbhgelcakdaaDoor.Bit
open Go.RowKit Go.Proofs.YtbljbhgelcakdaaDoor.Dig Go.Proofs.YtbljbhgelcakdaaDoor.Mem Go.Shelf
set_option linter.unusedVariables false
set_option linter.unusedSimpArgs false
attribute [local go_sem] Oper.semAt_some

theorem ctz_bits {x : Nat} (hx : x < 18446744073709551616) (h0 : x ≠ 0) : Lib.ctz 64 x < 64 ∧ x.testBit (Lib.ctz 64 x) = true ∧ ∀ j, j < Lib.ctz 64 x → x.testBit j = false := by
  have e : Lib.ctz 64 x = Lib.ctzFrom 64 x := by unfold Lib.ctz; rw [if_neg h0]
  rw [e]
  obtain ⟨m, hm, hk⟩ := Lib.ctzFrom_spec 64 x (by omega) (by omega)
  refine ⟨hk, ?_, fun j hj => ?_⟩
  · generalize Lib.ctzFrom 64 x = t at *
    rw [hm, Nat.mul_comm, Nat.testBit_mul_two_pow]
    simp [Nat.testBit_zero]
  · generalize Lib.ctzFrom 64 x = t at *
    rw [hm, Nat.mul_comm, Nat.testBit_mul_two_pow, decide_eq_false (by omega)]
    rfl
/-- Word i, without the numbers below K. -/
def mw (ws : List Nat) (K i : Nat) : Nat := if i = K / 64 then andn (ws.getD i 0) (2 ^ (K % 64) - 1) else ws.getD i 0
theorem low_lt (K : Nat) : 2 ^ (K % 64) - 1 < 18446744073709551616 := by
  have : 2 ^ (K % 64) ≤ 2 ^ 64 := Nat.pow_le_pow_right (by decide) (by omega)
  have : 0 < 2 ^ (K % 64) := Nat.two_pow_pos _
  omega
theorem mw_lt {ws : List Nat} (h : ∀ i, ws.getD i 0 < 18446744073709551616) (K i : Nat) : mw ws K i < 18446744073709551616 := by
  unfold mw
  split
  · exact andn_lt (h i)
  · exact h i
theorem mw_bit {ws : List Nat} (h : ∀ i, ws.getD i 0 < 18446744073709551616) {K i j : Nat} (hi : K / 64 ≤ i) (hj : j < 64) : (mw ws K i).testBit j = ((ws.getD i 0).testBit j && decide (K ≤ 64 * i + j)) := by
  unfold mw
  split
  · rename_i e
    subst e
    rw [andn_bit (h _) (low_lt K), Nat.testBit_two_pow_sub_one]
    congr 1
    by_cases q : j < K % 64
    · rw [decide_eq_true q, decide_eq_false (by omega)]; rfl
    · rw [decide_eq_false q, decide_eq_true (by omega)]; rfl
  · rw [decide_eq_true (by omega), Bool.and_true]
/-- What is told. -/
theorem next_hit {n c : Nat} {ws : List Nat} (hc : c = ws.length) (hb : ∀ i, ws.getD i 0 < 18446744073709551616) (ht : Tight n ws) {K i : Nat} (hi : K / 64 ≤ i) (h0 : mw ws K i ≠ 0) (hz : ∀ j, K / 64 ≤ j → j < i → mw ws K j = 0) : nextB (bitsW n ws) (K : Int) = ((i * 64 + Lib.ctz 64 (mw ws K i) : Nat) : Int) := by
  obtain ⟨h1, h2, h3⟩ := ctz_bits (mw_lt hb K i) h0
  generalize Lib.ctz 64 (mw ws K i) = t at *
  rw [mw_bit hb hi h1, Bool.and_eq_true, decide_eq_true_eq] at h2
  have d1 : (i * 64 + t) / 64 = i := by omega
  have d2 : (i * 64 + t) % 64 = t := by omega
  have hlt : i * 64 + t < n := by
    apply Nat.lt_of_not_le
    intro q
    have := ht _ q
    rw [d1, d2, h2.1] at this
    cases this
  refine nextB_hit (by rw [bitsW_length]; exact hlt) ?_ (by omega) (fun j hj hk => ?_)
  · rw [bitsW_getD hlt, d1, d2]; exact h2.1
  · rw [bitsW_getD (by omega)]
    rcases Nat.lt_or_ge (j / 64) i with q | q
    · have := mw_bit hb (K := K) (i := j / 64) (j := j % 64) (by omega) (by omega)
      rw [hz (j / 64) (by omega) q, Nat.zero_testBit, decide_eq_true (by omega), Bool.and_true] at this
      exact this.symm
    · have e : j / 64 = i := by omega
      have := mw_bit hb (K := K) (i := i) (j := j % 64) hi (by omega)
      rw [h3 (j % 64) (by omega), decide_eq_true (by omega), Bool.and_true] at this
      rw [e]
      exact this.symm
theorem next_none {n c : Nat} {ws : List Nat} (hc : c = ws.length) (hn : n ≤ 64 * c) (hb : ∀ i, ws.getD i 0 < 18446744073709551616) {K : Nat} (hz : ∀ j, K / 64 ≤ j → j < c → mw ws K j = 0) : nextB (bitsW n ws) (K : Int) = -1 := by
  refine nextB_none (fun j hj hk => ?_)
  rw [bitsW_length] at hj
  rw [bitsW_getD hj]
  have := mw_bit hb (K := K) (i := j / 64) (j := j % 64) (by omega) (by omega)
  rw [hz (j / 64) (by omega) (by omega), Nat.zero_testBit, decide_eq_true (by omega), Bool.and_true] at this
  exact this.symm
theorem next_neg (m : List Bool) {k : Int} (hk : k < 0) : nextB m k = nextB m 0 := by
  unfold nextB
  have e : ∀ k : Int, k ≤ 0 → (fun j : Nat => decide (k ≤ (j : Int)) && m.getD j false) = fun j : Nat => m.getD j false := fun k hk => by
    funext j
    rw [decide_eq_true (by omega), Bool.true_and]
  rw [e k (by omega), e 0 (by omega)]
set_option maxRecDepth 100000 in
set_option maxHeartbeats 2000000 in
theorem next_s {w : World} {p : Value} {F : Nat → Prop} {n c : Nat} {ws : List Nat} (k : Int) (hk : (Lit.int .i64 k).wf = true) (HT : Hid (Tab w)) (h : SetI w p F n c ws) :
    Calls Tryd.prog 19 #[p, .int .i64 k] w fun e w' => e = .returned (.int .i64 (nextB (bitsW n ws) k)) ∧ Below w.heap.size w w' := by
  obtain ⟨f1, f2, f3, f4, f5, f6, ⟨q, rfl⟩, f7⟩ := h.facts
  have HS := hide h
  obtain ⟨K, hKk⟩ : ∃ K : Nat, (K : Int) = if k < 0 then 0 else k := ⟨(if k < 0 then 0 else k).toNat, by split <;> omega⟩
  have hKb : K ≤ 9223372036854775807 := by
    simp only [Lit.wf, Bool.and_eq_true, decide_eq_true_eq] at hk
    have := hk.2
    have e : IntKind.i64.max = 9223372036854775807 := rfl
    split at hKk <;> omega
  have HN : Hid (nextB (bitsW n ws) k = nextB (bitsW n ws) (K : Int)) := hide (by
    by_cases q : k < 0
    · rw [if_pos q] at hKk
      rw [hKk]; exact next_neg _ q
    · rw [if_neg q] at hKk
      rw [hKk])
  have hmaxite : (if k < 0 then 0 else k) = (K : Int) := hKk.symm
  have hmax : max k 0 = (K : Int) := by rw [hKk]; split <;> omega
  have HF6 := hide f6
  obtain ⟨f, hf⟩ : ∃ f, f = K / 64 := ⟨_, rfl⟩
  have hKf : (K : Int) / 64 = (f : Int) := by omega
  obtain ⟨b, hb⟩ : ∃ b, b = 2 ^ (K % 64) - 1 := ⟨_, rfl⟩
  have hKw : IntKind.u64.wrap (IntKind.u64.wrap (2 ^ (K % 64)) - 1) = (b : Int) := by rw [hb]; exact fit_val (K % 64) (by omega)
  have hbl : b < 18446744073709551616 := by rw [hb]; exact low_lt K
  have HFF := hide hf
  have HBB := hide hb
  clear h f6 f7 hKk hf hb
  refine (callsIn_wide (n := 3)).1 ?_
  refine callsIn_of_wp_marks Tryd.func19 rfl trivial ?_ rfl
  simp only [Tryd.ntmps19, List.size_toArray, List.length_cons, List.length_nil, Nat.reduceAdd, Nat.reduceSub, Array.replicate_succ, Array.replicate_zero, List.push_toArray, List.append_toArray, List.nil_append, List.cons_append]
  gi_wp2_with (refine ⟨trivial, ?_⟩; gi_at_call 33; go_must ((with_reducible refine (callsIn_wide.2 (from_any _ _ _)).mono ?_); rintro e w9 ⟨rfl, rfl⟩))
  obtain ⟨W0, hW0⟩ : ∃ W0, W0 = ((((w.alloc (.cells #[.int .i64 (K : Int)] 3)).alloc (.cells #[.int .i64 0] 3)).alloc (.cells #[.int .u64 (b : Int)] 55)).alloc (.cells #[.pointer q] 24)).alloc (.cells #[.int .i64 (f : Int)] 3) := ⟨_, rfl⟩
  have hsz : W0.heap.size = w.heap.size + 5 := by rw [hW0]; simp
  have F0 : Fr w [(w.heap.size + 1, #[.int .i64 0]), (w.heap.size, #[.int .i64 (K : Nat)]), (w.heap.size + 1 + 1, #[.int .u64 (b : Nat)]), (w.heap.size + 1 + 1 + 1, #[.pointer q]), (w.heap.size + 1 + 1 + 1 + 1, #[.int .i64 (f : Nat)])] W0 := by
    rw [hW0]
    refine Fr.sub (((((Fr.start w).push #[.int .i64 (K : Int)] _ (b := w.heap.size) rfl |>.push #[.int .i64 0] _ (b := w.heap.size + 1) (by simp)).push #[.int .u64 (b : Int)] _ (b := w.heap.size + 1 + 1) (by simp)).push #[.pointer q] _ (b := w.heap.size + 1 + 1 + 1) (by simp)).push #[.int .i64 (f : Int)] _ (b := w.heap.size + 1 + 1 + 1 + 1) (by simp)) (fun r hr => ?_)
    simp only [List.mem_cons, List.not_mem_nil, or_false] at hr ⊢
    rcases hr with rfl | rfl | rfl | rfl | rfl <;> simp
  rw [← hW0]
  clear hW0
  have hst := from_still HS.out (w.heap.size + 1 + 1 + 1) (w.heap.size + 1 + 1 + 1 + 1) f (fun pre W => (∀ j : Nat, (j : Int) ∈ pre → mw ws K j = 0) ∧ Fr w [(w.heap.size + 1, #[.int .i64 0]), (w.heap.size, #[.int .i64 (K : Nat)]), (w.heap.size + 1 + 1, #[.int .u64 (b : Nat)]), (w.heap.size + 1 + 1 + 1, #[.pointer q]), (w.heap.size + 1 + 1 + 1 + 1, #[.int .i64 (f : Nat)])] W) (by omega) (fun pre W ⟨_, hF⟩ => ⟨(hF.one (b := w.heap.size + 1 + 1 + 1) (v := .pointer q) (by simp)).1, (hF.one (b := w.heap.size + 1 + 1 + 1 + 1) (v := .int .i64 (f : Int)) (by simp)).1, HS.out.below hF.below⟩)
  refine range_led (n := 3) rfl (by omega) rfl trivial (enters_of Tryd.func40 (by kernel_rfl) rfl) _ (fun cc pre W => cc = .ret ∧ Fr w [(w.heap.size + 1, #[.int .i64 (nextB (bitsW n ws) k)])] W) hst (fun _ => rfl) ?hI ?hIx ⟨fun j hj => by simp at hj, F0⟩
    (fun x => { tmps := #[.pointer q, .int .i64 k, undef, .pointer (some ⟨w.heap.size, 0, none⟩), .pointer (some ⟨w.heap.size + 1, 0, none⟩), .pointer (some ⟨w.heap.size + 1 + 1, 0, none⟩), .int .i64 x, .int .u64 ((ws.getD x.toNat 0 : Nat) : Int), .int .i64 k, .int .i64 (K : Int), .int .i64 (K : Int), .int .i64 ((K : Int) % 64), .int .u64 (IntKind.u64.wrap (2 ^ (K % 64))), .int .u64 (b : Int), .pointer q, .int .i64 (K : Int), .int .i64 (f : Int), .func (.func 40) #[] #[.pointer (some ⟨w.heap.size + 1 + 1 + 1, 0, none⟩), .pointer (some ⟨w.heap.size + 1 + 1 + 1 + 1, 0, none⟩)], .int .i64 x, .int .u64 ((ws.getD x.toNat 0 : Nat) : Int), undef, undef, undef, undef, undef, undef, undef, undef, undef, undef, undef, undef, undef, undef], defers := [] }) ?assign ?body ?done ?stop
  case hI =>
    rintro pre A V row ⟨hk, hF⟩ hg hr
    exact ⟨hk, hF.off (by omega) hg hr⟩
  case hIx =>
    rintro cc pre A V row ⟨hk, hF⟩ hg hr
    exact ⟨hk, hF.off (by omega) hg hr⟩
  case assign =>
    intro l x W K hK
    simp only [encW]
    gi_wp2
    exact hK
  case body =>
    rintro l pre x W ⟨hz, hF⟩ ⟨i, rfl, hfi, hi, hx, e⟩
    have hk0 := (hF.one (b := w.heap.size) (v := .int .i64 (K : Int)) (by simp)).1
    have hk2 := (hF.one (b := w.heap.size + 1 + 1) (v := .int .u64 (b : Int)) (by simp)).1
    have hk1 := (hF.one (b := w.heap.size + 1) (v := .int .i64 0) (by simp))
    have hK1 := hk1.1
    have hK2 := hk1.2
    have HTW := hide (HT.out.keep hF.below)
    have hx2 := f5 i
    have hml := mw_lt f5 K i
    obtain ⟨y, hy⟩ : ∃ y, y = ws.getD i 0 := ⟨_, rfl⟩
    obtain ⟨z, hz'⟩ : ∃ z, z = mw ws K i := ⟨_, rfl⟩
    have HMW : Hid (z = if i = f then andn y b else y) := hide (by rw [hz', hy, HBB.out, HFF.out]; rfl)
    have HNX : Hid (z ≠ 0 → nextB (bitsW n ws) k = ((i * 64 + Lib.ctz 64 z : Nat) : Int)) := hide (fun h0 => by
      rw [HN.out, hz']
      refine next_hit f1 f5 HF6.out (by rw [← HFF.out]; exact hfi) (by rw [← hz']; exact h0) (fun j h1 h2 => ?_)
      by_cases q : ws.getD j 0 = 0
      · unfold mw
        rw [q]
        split
        · unfold andn; simp
        · rfl
      · exact hz j (by rw [e]; exact mem_upW.2 ⟨j, rfl, by rw [HFF.out]; exact h1, h2, q⟩))
    have HF := hide hF
    have HZ : Hid (z = 0 → ∀ j : Nat, (j : Int) ∈ pre ++ [(i : Int)] → mw ws K j = 0) := hide (fun h0 j hj => by
      rcases List.mem_append.1 hj with q | q
      · exact hz j q
      · have : j = i := by have := List.mem_singleton.1 q; omega
        rw [this, ← hz', h0])
    simp only [Int.toNat_natCast]
    rw [← hy] at hx2 ⊢
    rw [← hz'] at hml
    have hz0 : y ≠ 0 := by rw [hy]; exact hx
    have hd : 1 ≤ 3 - 1 - 1 := by omega
    have HEA := hide (bits_andn hx2 hbl)
    obtain ⟨a, ha⟩ : ∃ a, a = andn y b := ⟨_, rfl⟩
    rw [← ha] at HEA HMW
    have hEA : bits .andNot .u64 (y : Int) (b : Int) = (a : Int) := HEA.out
    clear hy hz' hz hF e hk1 ha HEA
    by_cases hif : i = f
    · subst hif
      have hza : z = a := by rw [HMW.out, if_pos rfl]
      subst hza
      have gi : ((i : Int) == (i : Int)) = true := by simp
      by_cases h0 : z = 0
      · subst h0
        gi_wp2
        exact ⟨KeepsFrom.refl _ _, HZ.out (by simp), HF.out⟩
      · have h0' : ¬ (z : Int) = 0 := by omega
        have HC := hide (tz_any z hml h0 W HTW.out)
        have ht := (ctz_bits hml h0).1
        have HNX2 := hide (HNX.out h0)
        obtain ⟨t, ht'⟩ : ∃ t, t = Lib.ctz 64 z := ⟨_, rfl⟩
        rw [← ht'] at HC ht HNX2
        clear ht' HNX
        gi_wp2_with (refine ⟨trivial, ?_⟩; gi_at_call 36; go_must ((refine (CallsIn.inRound l (callsIn_wide.2 (Hid.out HC))).mono ?_); rintro e w1 ⟨rfl, rfl⟩))
        have e3 : (i : Int) * 64 + (t : Int) = nextB (bitsW n ws) k := by rw [HNX2.out]; omega
        exact ⟨(KeepsOthers.setCell w1 _ _).from _, rfl, by rw [e3]; exact (HF.out.set (by omega) (by simp; omega) (u := .int .i64 (nextB (bitsW n ws) k))).sub (fun r hr => by simp only [List.mem_cons, List.not_mem_nil, or_false] at hr ⊢; exact .inl hr)⟩
    · have hza : z = y := by rw [HMW.out, if_neg hif]
      subst hza
      have gi : ((i : Int) == (f : Int)) = false := by simp; omega
      have h0' : ¬ (z : Int) = 0 := by omega
      have HC := hide (tz_any z hml hz0 W HTW.out)
      have ht := (ctz_bits hml hz0).1
      have HNX2 := hide (HNX.out hz0)
      obtain ⟨t, ht'⟩ : ∃ t, t = Lib.ctz 64 z := ⟨_, rfl⟩
      rw [← ht'] at HC ht HNX2
      clear ht' HNX
      gi_wp2_with (refine ⟨trivial, ?_⟩; gi_at_call 36; go_must ((refine (CallsIn.inRound l (callsIn_wide.2 (Hid.out HC))).mono ?_); rintro e w1 ⟨rfl, rfl⟩))
      have e3 : (i : Int) * 64 + (t : Int) = nextB (bitsW n ws) k := by rw [HNX2.out]; omega
      exact ⟨(KeepsOthers.setCell w1 _ _).from _, rfl, by rw [e3]; exact (HF.out.set (by omega) (by simp; omega) (u := .int .i64 (nextB (bitsW n ws) k))).sub (fun r hr => by simp only [List.mem_cons, List.not_mem_nil, or_false] at hr ⊢; exact .inl hr)⟩
  case done =>
    rintro D xs W hD rfl ⟨hz, hF⟩ hK
    have hNN : Hid (nextB (bitsW n ws) k = -1) := hide (by
      rw [HN.out]
      refine next_none f1 f4 f5 (fun j h1 h2 => ?_)
      by_cases q : ws.getD j 0 = 0
      · unfold mw
        rw [q]
        split
        · unfold andn; simp
        · rfl
      · exact hz j (mem_upW.2 ⟨j, rfl, by rw [HFF.out]; exact h1, h2, q⟩))
    have hk2 := hF.one (b := w.heap.size + 1) (v := .int .i64 0) (by simp)
    have hK1 := hk2.1
    have hK2 := hk2.2
    have HB := hide hF.below
    have hsz2 := hF.below.size
    clear hz hF hk2
    gi_wp2
    have hK' := (KeepsOthers.setCell W ⟨w.heap.size + 1, 0, none⟩ (.int .i64 (-1))).same D _ hK rfl
    refine ⟨by simp, .inl ⟨_, _, rfl, run_takeDeferred hK', ?_⟩⟩
    have hc := cell_kept (World.cell?_setCell_same' W ⟨w.heap.size + 1, 0, none⟩ (.int .i64 (-1)) (by rw [hK1]; rfl)) (grownBy_putObj' _ D (.deferred none)) (fun r e => by cases e; exact ⟨_, hK', rfl⟩)
    exact ⟨.int .i64 (-1), by simp [results, Tryd.f19, go_sem, hc], by rw [hNN.out], (HB.out.setCell (p := ⟨w.heap.size + 1, 0, none⟩) (by simp) _).trans (belowK_b (w := w) (Nat.le_refl _) _ D _ _ (by omega) hK' rfl rfl)⟩
  case stop =>
    rintro D cc pre W hD _ ⟨rfl, hF⟩ hK
    obtain ⟨r, hr⟩ : ∃ r, r = nextB (bitsW n ws) k := ⟨_, rfl⟩
    rw [← hr] at hF
    have HR := hide hr
    have hK1 := (hF.one (b := w.heap.size + 1) (v := .int .i64 r) (by simp)).1
    have HB := hide hF.below
    clear hF hr
    gi_wp2
    refine ⟨by simp, .inl ⟨_, _, rfl, run_takeDeferred hK, ?_⟩⟩
    have hc := cell_kept hK1 (grownBy_putObj' W D (.deferred none)) (fun r e => by cases e; exact ⟨_, hK, rfl⟩)
    exact ⟨.int .i64 r, by simp [results, Tryd.f19, go_sem, hc], by rw [HR.out], HB.out.trans (belowK_b (w := w) (Nat.le_refl _) W D _ _ (by omega) hK rfl rfl)⟩
end Go.Proofs.YtbljbhgelcakdaaDoor.Bit
