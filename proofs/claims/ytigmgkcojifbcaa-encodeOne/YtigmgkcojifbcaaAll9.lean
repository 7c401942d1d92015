/- Joined out of the texts Last, in that order. -/
import Derived.WalkKit
import Derived.Deep.RegionHeld3
/- A region that draws its order, whose last operation waits for all others: it may be split off, so that what is held of the world need not outlast it. -/
namespace Go.Proofs.Ytigmgkcojifbcaa.Last
open Go
set_option linter.unusedVariables false

section
variable {P : Program} {md : Region.Mode} {ops : Array Oper} {Q : Exit → Act → World → Prop} {S : World → Prop}
/-- What an operation comes to hangs on how the rest goes on, and on what is asked where it does not. -/
theorem upon_then {o : Oper} {a : Act} {next K K' : Act → World → Prop} (h : ∀ a w, K a w → K' a w) : ∀ {r : Result Next}, o.upon P a K (Exit.then next Q) r → o.upon P a K' Q r
  | .ok (.value v) w', hh => h _ _ hh
  | .ok .skip w', hh => h _ _ hh
  | .ok (.defer d) w', hh => h _ _ hh
  | .ok (.enter f args) w', hh => Calls.mono hh fun e w'' he => match e, he with
    | .returned v, he => h _ _ he
    | .panicked c, he => he
    | .outgrown, he => he
  | .ok (.row row args) w', hh => Rows.mono hh fun _ _ he => h _ _ he
  | .halt x w', hh => by cases x <;> first | exact hh | exact hh.elim
theorem wpOp_then {i : Nat} {a : Act} {w : World} {next K K' : Act → World → Prop} (h : ∀ a w, K a w → K' a w) (hh : wpOp P ops (Exit.then next Q) i K a w) : wpOp P ops Q i K' a w := by
  unfold wpOp at *
  cases ho : ops[i]? with
  | none => rw [ho] at hh; exact h _ _ hh
  | some o =>
    rw [ho] at hh
    simp only at hh ⊢
    split
    · rename_i hw
      rw [if_pos hw] at hh
      exact hh.imp (upon_then h) id
    · rename_i hw
      rw [if_neg hw] at hh
      exact h _ _ hh
theorem all_listed {listed : Array Bool} (hlt : ∀ i o, ops[i]? = some o → ∀ e ∈ o.after, Region.binds md e = true → e.on < i) (h : Region.ready md ops listed = []) : ∀ n i, i < n → i < ops.size → listed.getD i true = true
  | 0, i, hi, _ => by omega
  | n + 1, i, hi, hs => by
    cases hq : listed.getD i true with
    | true => rfl
    | false =>
      exfalso
      have : i ∈ Region.ready md ops listed := mem_ready.2 ⟨hq, ops[i], Array.getElem?_eq_getElem hs, fun e he hb => by
        have hl := hlt i _ (Array.getElem?_eq_getElem hs) e he hb
        have := all_listed hlt h n e.on (by omega) (by omega)
        rw [Array.getD_eq_getD_getElem?] at this ⊢
        cases hx : listed[e.on]? with
        | some b => rw [hx] at this; exact this
        | none =>
          exfalso
          have h1 : listed.size ≤ e.on := by
            rcases Nat.lt_or_ge e.on listed.size with q | q
            · rw [Array.getElem?_eq_getElem q] at hx; cases hx
            · exact q
          rw [Array.getD_eq_getD_getElem?, Array.getElem?_eq_none (by omega)] at hq
          cases hq⟩
      rw [h] at this
      cases this
theorem getD_true {listed : Array Bool} {i : Nat} (hi : i < listed.size) (h : listed.getD i true = true) : listed.getD i false = true := by
  rw [Array.getD_eq_getD_getElem?, Array.getElem?_eq_getElem hi] at *
  exact h
/-- Whoever is listed, those that it waits for are, too. -/
def Closed (md : Region.Mode) (ops : Array Oper) (listed : Array Bool) : Prop := ∀ i o, ops[i]? = some o → listed.getD i false = true → ∀ e ∈ o.after, Region.binds md e = true → listed.getD e.on false = true
theorem getD_set_le {listed : Array Bool} {i j : Nat} (h : listed.getD j false = true) : (listed.setIfInBounds i true).getD j false = true := by
  by_cases e : i = j
  · subst e
    rw [Array.getD_eq_getD_getElem?] at *
    have hl : i < listed.size := by
      rcases Nat.lt_or_ge i listed.size with q | q
      · exact q
      · rw [Array.getElem?_eq_none q] at h; cases h
    rw [Array.getElem?_setIfInBounds_self_of_lt hl]
    rfl
  · rw [Array.getD_eq_getD_getElem?, Array.getElem?_setIfInBounds_ne e, ← Array.getD_eq_getD_getElem?]
    exact h
theorem Closed.step {listed : Array Bool} {i : Nat} (h : Closed md ops listed) (hi : i ∈ Region.ready md ops listed) : Closed md ops (listed.setIfInBounds i true) := by
  intro j o ho hj e he hb
  obtain ⟨_, oi, hoi, hall⟩ := mem_ready.1 hi
  by_cases q : i = j
  · subst q
    rw [ho] at hoi
    obtain rfl := Option.some.inj hoi
    exact getD_set_le (hall e he hb)
  · rw [Array.getD_eq_getD_getElem?, Array.getElem?_setIfInBounds_ne q, ← Array.getD_eq_getD_getElem?] at hj
    exact getD_set_le (h j o ho hj e he hb)
theorem below_listed {listed : Array Bool} {k : Nat} {ok : Oper} (hk : ops[k]? = some ok) (hc : Closed md ops listed) (hkr : ∀ e ∈ ok.after, Region.binds md e = true → listed.getD e.on false = true)
    (hw : ∀ j, j < k → ∃ i o, i ≤ k ∧ ops[i]? = some o ∧ ∃ e ∈ o.after, Region.binds md e = true ∧ e.on = j) (hlt : ∀ i o, ops[i]? = some o → ∀ e ∈ o.after, Region.binds md e = true → e.on < i) : ∀ n j, k ≤ j + n → j < k → listed.getD j false = true
  | 0, j, h, hj => by omega
  | n + 1, j, h, hj => by
    obtain ⟨i, o, hi, ho, e, he, hb, hon⟩ := hw j hj
    have hji := hlt i o ho e he hb
    rcases Nat.eq_or_lt_of_le hi with q | q
    · subst q
      rw [hk] at ho
      obtain rfl := Option.some.inj ho
      rw [← hon]
      exact hkr e he hb
    · rw [← hon]
      exact hc i o ho (below_listed hk hc hkr hw hlt n i (by omega) q) e he hb
/-- The last one is split off. -/
theorem wpAny_last {k : Nat} {ok : Oper} (hs : k + 1 = ops.size) (hk : ops[k]? = some ok) (hw : ∀ j, j < k → ∃ i o, i ≤ k ∧ ops[i]? = some o ∧ ∃ e ∈ o.after, Region.binds md e = true ∧ e.on = j) (hlt : ∀ i o, ops[i]? = some o → ∀ e ∈ o.after, Region.binds md e = true → e.on < i) :
    ∀ (fuel : Nat) (listed : Array Bool) (a : Act) (w : World), listed.size = ops.size → Closed md ops listed → listed.getD k true = false →
      wpAnyH P md ops (Exit.then (fun a w => wpOp P ops Q k (Q .normal) a w) Q) S fuel (listed.setIfInBounds k true) a w → wpAny P md ops Q (fuel + 1) listed a w := by
  have hne : ∀ {j : Nat} {l : Array Bool}, j ∈ Region.ready md ops (l.setIfInBounds k true) → l.size = ops.size → j ≠ k := by
    intro j l hj hl q
    subst q
    have := (mem_ready.1 hj).1
    rw [Array.getD_eq_getD_getElem?, Array.getElem?_setIfInBounds_self_of_lt (by omega)] at this
    cases this
  have hback : ∀ {j : Nat} {l : Array Bool}, j ∈ Region.ready md ops (l.setIfInBounds k true) → l.size = ops.size → j ∈ Region.ready md ops l := by
    intro j l hj hl
    have hjk := hne hj hl
    obtain ⟨h1, o, h2, h3⟩ := mem_ready.1 hj
    have hjs : j < ops.size := by
      rcases Nat.lt_or_ge j ops.size with q | q
      · exact q
      · rw [Array.getElem?_eq_none q] at h2; cases h2
    refine mem_ready.2 ⟨by rw [Array.getD_eq_getD_getElem?, Array.getElem?_setIfInBounds_ne (Ne.symm hjk)] at h1; rw [Array.getD_eq_getD_getElem?]; exact h1, o, h2, fun e he hb => ?_⟩
    have h4 := h3 e he hb
    have h5 := hlt j o h2 e he hb
    rw [Array.getD_eq_getD_getElem?, Array.getElem?_setIfInBounds_ne (by omega)] at h4
    rw [Array.getD_eq_getD_getElem?]
    exact h4
  -- where nothing but the last one is left
  have hend : ∀ (fuel : Nat) (l : Array Bool) (a : Act) (w : World), Region.ready md ops (l.setIfInBounds k true) = [] → wpAnyH P md ops (Exit.then (fun a w => wpOp P ops Q k (Q .normal) a w) Q) S fuel (l.setIfInBounds k true) a w → wpOp P ops Q k (Q .normal) a w := by
    intro fuel l a w h0 H
    cases fuel with
    | zero => exact H.2
    | succ f => exact H.1 h0
  have hdone : ∀ (fuel : Nat) (l : Array Bool) (a : Act) (w : World), Region.ready md ops l = [] → Q .normal a w → wpAny P md ops Q fuel l a w := by
    intro fuel l a w h0 hq
    cases fuel with
    | zero => exact ⟨h0, hq⟩
    | succ f => exact ⟨fun _ => hq, by rw [h0]; simp⟩
  intro fuel
  induction fuel with
  | zero =>
    intro listed a w hls hcl hun H
    have h0 : Region.ready md ops (listed.setIfInBounds k true) = [] := H.1
    have hall := all_listed hlt h0 ops.size
    have hkr : k ∈ Region.ready md ops listed := mem_ready.2 ⟨hun, ok, hk, fun e he hb => by
      have h5 := hlt k ok hk e he hb
      have := hall e.on (by omega) (by omega)
      rw [Array.getD_eq_getD_getElem?, Array.getElem?_setIfInBounds_ne (by omega), ← Array.getD_eq_getD_getElem?] at this
      exact getD_true (by omega) this⟩
    refine ⟨fun q => (by rw [q] at hkr; cases hkr), fun i hi => ?_⟩
    by_cases hik : i = k
    · subst hik
      exact wpOp_mono (fun a w hq => hdone 0 _ a w h0 hq) (hend 0 listed a w h0 H)
    · have := ready_mono hi hik
      rw [h0] at this
      cases this
  | succ f ih =>
    intro listed a w hls hcl hun H
    by_cases h0 : Region.ready md ops (listed.setIfInBounds k true) = []
    · have hall := all_listed hlt h0 ops.size
      have hkr : k ∈ Region.ready md ops listed := mem_ready.2 ⟨hun, ok, hk, fun e he hb => by
        have h5 := hlt k ok hk e he hb
        have := hall e.on (by omega) (by omega)
        rw [Array.getD_eq_getD_getElem?, Array.getElem?_setIfInBounds_ne (by omega), ← Array.getD_eq_getD_getElem?] at this
        exact getD_true (by omega) this⟩
      refine ⟨fun q => (by rw [q] at hkr; cases hkr), fun i hi => ?_⟩
      by_cases hik : i = k
      · subst hik
        exact wpOp_mono (fun a w hq => hdone _ _ a w h0 hq) (hend _ listed a w h0 H)
      · have := ready_mono hi hik
        rw [h0] at this
        cases this
    · obtain ⟨j, hj⟩ := List.exists_mem_of_ne_nil _ h0
      have hjl := hback hj hls
      refine ⟨fun q => (by rw [q] at hjl; cases hjl), fun i hi => ?_⟩
      by_cases hik : i = k
      · exfalso
        subst hik
        obtain ⟨_, o, ho, hall⟩ := mem_ready.1 hi
        have hjk := hne hj hls
        obtain ⟨hj1, oj, hoj, _⟩ := mem_ready.1 hjl
        have hjs : j < ops.size := by
          rcases Nat.lt_or_ge j ops.size with q | q
          · exact q
          · rw [Array.getElem?_eq_none q] at hoj; cases hoj
        rw [hk] at ho
        obtain rfl := Option.some.inj ho
        have := below_listed hk hcl hall hw hlt i j (by omega) (by omega)
        rw [Array.getD_eq_getD_getElem?, Array.getElem?_eq_getElem (by omega)] at this hj1
        simp only [Option.getD_some] at this hj1
        rw [this] at hj1
        cases hj1
      · refine wpOp_then (fun a' w' h => ?_) (H.2 i (ready_mono hi hik))
        refine ih (listed.setIfInBounds i true) a' w' (by simpa using hls) (hcl.step hi) ?_ ?_
        · rw [Array.getD_eq_getD_getElem?, Array.getElem?_setIfInBounds_ne hik, ← Array.getD_eq_getD_getElem?]; exact hun
        · rw [Array.setIfInBounds_comm _ _ hik]
          exact h.2
theorem done_last {k : Nat} {a : Act} {w : World} (h : wpOp P ops Q k (Q .normal) a w) : Exit.then (fun a w => wpOp P ops Q k (Q .normal) a w) Q .normal a w := h
/-- The beginning. -/
theorem region_last {id k : Nat} {ok : Oper} {a : Act} {w : World} (hm : P.follows .mixedOrders = true) (hs : k + 1 = ops.size) (hk : ops[k]? = some ok) (hw : (List.range k).all (fun j => (List.range (k + 1)).any fun i => match ops[i]? with | none => false | some o => o.after.any fun e => Region.binds .any e && e.on == j) = true)
    (hlt : (List.range ops.size).all (fun i => match ops[i]? with | none => true | some o => o.after.all fun e => !Region.binds .any e || decide (e.on < i)) = true)
    (h : wpAnyH P .any ops (Exit.then (fun a w => wpOp P ops Q k (Q .normal) a w) Q) S k ((Array.replicate ops.size false).setIfInBounds k true) a w.drew) : (Code.region id ops true).wp P Q a w := by
  refine wp_region_any hm ?_
  rw [← hs]
  refine wpAny_last hs hk (fun i hi => ?_) (fun i o ho e he hb => ?_) k _ a _ (by simpa using hs) (fun i o ho hi => by rw [Array.getD_eq_getD_getElem?, Array.getElem?_replicate] at hi; split at hi <;> cases hi) (by rw [Array.getD_eq_getD_getElem?, Array.getElem?_replicate, if_pos (by omega)]; rfl) (by rw [← hs] at h; exact h)
  · have := List.all_eq_true.1 hw i (List.mem_range.2 hi)
    obtain ⟨n, hn, q⟩ := List.any_eq_true.1 this
    have hn' := List.mem_range.1 hn
    cases ho : ops[n]? with
    | none => rw [ho] at q; cases q
    | some o =>
      rw [ho] at q
      obtain ⟨m, hm, q⟩ := Array.any_eq_true.1 q
      simp at q
      exact ⟨n, o, by omega, ho, o.after[m], Array.getElem_mem hm, q.1, q.2⟩
  · have hi : i < ops.size := by
      rcases Nat.lt_or_ge i ops.size with q | q
      · exact q
      · rw [Array.getElem?_eq_none q] at ho; cases ho
    have := List.all_eq_true.1 hlt i (List.mem_range.2 hi)
    rw [ho] at this
    obtain ⟨j, hj, rfl⟩ := Array.mem_iff_getElem.1 he
    have := Array.all_eq_true.1 this j hj
    simp [hb] at this
    exact this
end
end Go.Proofs.Ytigmgkcojifbcaa.Last
