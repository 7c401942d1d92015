/- A region in a round of a range over a function, whose operations read alone, but for the last one, a store behind all others: one walk in the text's order serves every order. -/
import Derived.Sort.BigQuietIn
import Derived.RangeFuncNested
import Derived.RangeFuncCalls
namespace Go.Proofs.Ythajooipaiiieaa.Round
open Go Go.RowKit
set_option linter.unusedVariables false
set_option linter.unusedSimpArgs false

section
variable {F : Fence} {n : Nat} {P : Program} {ops ops' : Array Oper} {md : Region.Mode} {C : World → Prop} {l : Nat}
def skipOf (o : Oper) : Oper := { o with op := .assign (.const undef), dst := none, guard := none }
def noDefer (ops : Array Oper) : Bool := ops.all fun o => match o.op with | .defer _ => false | _ => true
theorem noDefer_spec (h : noDefer ops = true) {i : Nat} {o : Oper} (ho : ops[i]? = some o) (c : Call) : o.op ≠ .defer c := by
  intro e
  have := Array.all_eq_true_iff_forall_mem.1 h o (Array.mem_of_getElem? ho)
  rw [e] at this
  cases this
/-- Edges lead back, and the last operation waits for all others. -/
def backB (ops : Array Oper) : Bool := (List.range ops.size).all fun i => match ops[i]? with | some o => o.after.all fun e => decide (e.on < i) | none => true
def lastB (md : Region.Mode) (ops : Array Oper) (k : Nat) : Bool := match ops[k]? with | some o => (List.range k).all fun j => o.after.any fun e => e.on == j && Region.binds md e | none => false
theorem backB_spec (h : backB ops = true) {i : Nat} {o : Oper} (ho : ops[i]? = some o) {e : _} (he : e ∈ o.after) : e.on < i := by
  unfold backB at h
  have h1 := List.all_eq_true.1 h i (List.mem_range.2 (Array.getElem?_eq_some_iff.1 ho).1)
  rw [ho] at h1
  exact of_decide_eq_true (Array.all_eq_true_iff_forall_mem.1 h1 e he)
/-- While one has not come up, one may. -/
theorem ready_some (hb : backB ops = true) {listed : Array Bool} (hs : listed.size = ops.size) {k : Nat} (hk : listed.getD k true = false) : Region.ready md ops listed ≠ [] := by
  have key : ∀ k, listed.getD k true = false → ∃ j, listed.getD j true = false ∧ ∀ i, i < j → listed.getD i true = true := by
    intro k
    induction k using Nat.strongRecOn with
    | ind k ih =>
      intro hk
      by_cases q : ∃ i, i < k ∧ listed.getD i true = false
      · obtain ⟨i, hi, h⟩ := q
        exact ih i hi h
      · exact ⟨k, hk, fun i hi => by
          cases e : listed.getD i true with
          | true => rfl
          | false => exact absurd ⟨i, hi, e⟩ q⟩
  obtain ⟨j, hj, hall⟩ := key k hk
  have hjs : j < ops.size := by
    apply Nat.lt_of_not_le
    intro q
    simp [Array.getD, show ¬ j < listed.size by omega] at hj
  intro h0
  have : j ∈ Region.ready md ops listed := mem_ready.2 ⟨hj, ops[j], by simp [hjs], fun e he _ => by
    have hlt := backB_spec hb (i := j) (o := ops[j]) (by simp [hjs]) he
    have := hall _ hlt
    have hls : e.on < listed.size := by omega
    simp [Array.getD, hls] at this ⊢
    exact this⟩
  rw [h0] at this
  cases this
theorem wpIn_of_quiet_round {o : Oper} {a : Act} {K : Act → Prop} {K' : Act → World → Prop} {Q' : Exit → Act → World → Prop} {w : World} (hnd : ∀ c, o.op ≠ .defer c) (hw : C w) (h : ∀ a w', C w' → K a → K' a w')
    (ha : o.askedIn F P a C) (hh : o.quietIn F n P a C K) : o.wpIn (F.inRound l) n P a w K' Q' := by
  obtain ⟨v, h1, h2⟩ := hh
  have h3 := h1 w hw
  unfold Oper.quietAtIn at h3
  unfold Oper.wpIn
  refine ⟨ha w hw, ?_⟩
  rw [Oper.semAt_eq _ _ _ hnd]
  generalize (execOp a.eval o).run P w = r at *
  cases r with
  | ok x w' =>
    cases x <;> simp only [Oper.quietUponIn] at h3 <;> simp only [Oper.uponIn]
    case value u =>
      obtain ⟨e1, e2⟩ := h3
      rw [e1, e2]
      exact h _ _ hw h2
    case skip =>
      obtain ⟨e1, e2⟩ := h3
      rw [e1, ← e2]
      exact h _ _ hw h2
    case enter f args =>
      obtain ⟨e1, hd, hc⟩ := h3
      rw [e1]
      exact ⟨hd, (CallsIn.inRound l hc).mono fun e w'' ⟨he, hw''⟩ => by subst he; exact h _ _ hw'' h2⟩
  | halt x w' => simp only [Oper.quietUponIn] at h3
theorem wpOpIn_of_qOpIn_round {i : Nat} {a : Act} {K : Act → Prop} {K' : Act → World → Prop} {Q' : Exit → Act → World → Prop} {w : World} (hnd : noDefer ops = true) (hy : yielded ops' = yielded ops) (hi : ops'[i]? = ops[i]?) (hC : C w) (h : ∀ a w', C w' → K a → K' a w')
    (hh : qOpIn F n P ops' C i K a) : wpOpIn (F.inRound l) n P ops Q' i K' a w := by
  unfold qOpIn at hh
  unfold wpOpIn
  rw [hi, hy] at hh
  split
  · rename_i ho; simp only [ho] at hh; exact h _ _ hC hh
  · rename_i o ho
    simp only [ho] at hh
    obtain ⟨ha, hh⟩ := hh
    split
    · rename_i hw; simp only [hw, if_true] at hh; exact wpIn_of_quiet_round (noDefer_spec hnd ho) hC h ha hh
    · rename_i hw; simp only [hw] at hh; exact ⟨ha w hC, h _ _ hC hh⟩
theorem getD_set_same {listed : Array Bool} {k : Nat} (b : Bool) (hk : k < listed.size) : (listed.setIfInBounds k true).getD k b = true := by
  simp [Array.getD, hk]
theorem listed_default {listed : Array Bool} {j : Nat} (hj : j < listed.size) (b c : Bool) : listed.getD j b = listed.getD j c := by simp [Array.getD, hj]
/-- While the last one has not come up. -/
theorem any_of_quiet_last {Q' : Exit → Act → World → Prop} {k : Nat} {o : Oper} (hnd : noDefer ops = true) (hb : backB ops = true) (hk : ops.size = k + 1) (ho : ops[k]? = some o) (hl : lastB md ops k = true) (hsz : ops'.size = ops.size) (hsame : ∀ i, i ≠ k → ops'[i]? = ops[i]?) (hk' : ops'[k]? = some (skipOf o)) (hdst : o.dst = none) :
    ∀ (fuel : Nat) (listed : Array Bool) (a : Act) (w : World), listed.size = ops.size → listed.getD k true = false → C w →
      wpAnyQIn F n P md ops' C (fun a' => ∀ w', C w' → wpOpIn (F.inRound l) n P ops Q' k (fun a w => Q' .normal a w) a' w') fuel listed a → wpAnyIn (F.inRound l) n P md ops Q' fuel listed a w := by
  have hafter : ∀ i, (ops'[i]?).map Oper.after = (ops[i]?).map Oper.after := fun i => by
    by_cases e : i = k
    · subst e; rw [hk', ho]; rfl
    · rw [hsame i e]
  have hready : ∀ listed, Region.ready md ops' listed = Region.ready md ops listed := fun listed => by
    unfold Region.ready
    rw [hsz]
    apply List.filter_congr
    intro i _
    have := hafter i
    cases h1 : ops'[i]? with
    | none => rw [h1] at this; cases h2 : ops[i]? with
      | none => rfl
      | some x => rw [h2] at this; cases this
    | some y => rw [h1] at this; cases h2 : ops[i]? with
      | none => rw [h2] at this; cases this
      | some x => rw [h2] at this; simp at this; simp [this]
  have hyield : yielded ops' = yielded ops := by
    funext tmps j
    unfold yielded
    have : (ops'[j]?).bind (·.dst) = (ops[j]?).bind (·.dst) := by
      by_cases e : j = k
      · subst e; rw [hk', ho]; simp [skipOf, hdst]
      · rw [hsame j e]
    rw [this]
  intro fuel
  induction fuel with
  | zero =>
    intro listed a w hs hkl hC h
    have h0 : Region.ready md ops' listed = [] := h.1
    rw [hready] at h0
    exact absurd h0 (ready_some hb hs hkl)
  | succ fuel ih =>
    intro listed a w hs hkl hC h
    refine ⟨fun h0 => absurd h0 (ready_some hb hs hkl), fun i hi => ?_⟩
    have h1 := h.2 i (by rw [hready]; exact hi)
    by_cases e : i = k
    · subst e
      have hall : ∀ j, j < i → listed.getD j true = true := fun j hj => by
        obtain ⟨_, o2, ho2, h2⟩ := mem_ready.1 hi
        rw [ho] at ho2
        obtain rfl := Option.some.inj ho2
        unfold lastB at hl
        rw [ho] at hl
        have := List.all_eq_true.1 hl j (List.mem_range.2 hj)
        obtain ⟨q, hqs, hq⟩ := Array.any_eq_true.1 this
        rw [Bool.and_eq_true, beq_iff_eq] at hq
        rw [listed_default (by omega) true false, ← hq.1]
        exact h2 _ (Array.getElem_mem hqs) hq.2
      have hr0 : Region.ready md ops (listed.setIfInBounds i true) = [] := by
        rw [List.eq_nil_iff_forall_not_mem]
        intro j hj
        obtain ⟨h2, o2, ho2, _⟩ := mem_ready.1 hj
        have hjs : j < ops.size := (Array.getElem?_eq_some_iff.1 ho2).1
        by_cases ej : j = i
        · subst ej; rw [getD_set_same true (by omega)] at h2; cases h2
        · rw [getD_set_ne true (Ne.symm ej), hall j (by omega)] at h2; cases h2
      unfold qOpIn at h1
      rw [hk'] at h1
      obtain ⟨_, h1⟩ := h1
      have hw : Region.wanted (skipOf o) (yielded ops' a.tmps) = true := rfl
      rw [if_pos hw] at h1
      obtain ⟨v, _, h1⟩ := h1
      have h1' : wpAnyQIn F n P md ops' C (fun a' => ∀ w', C w' → wpOpIn (F.inRound l) n P ops Q' i (fun a w => Q' .normal a w) a' w') fuel (listed.setIfInBounds i true) a := h1
      have hQ : ∀ w', C w' → wpOpIn (F.inRound l) n P ops Q' i (fun a w => Q' .normal a w) a w' := by
        cases fuel with
        | zero => exact h1'.2
        | succ f => exact h1'.1 (by rw [hready]; exact hr0)
      exact wpOpIn_mono (fun a' w' q => wpAnyIn_done hr0 q fuel) (hQ w hC)
    · exact wpOpIn_of_qOpIn_round hnd hyield (hsame i e) hC (fun a' w' hC' h' => ih _ a' w' (by simp [hs]) (by rw [getD_set_ne true e]; exact hkl) hC' h') h1
theorem wpQuietIn_last {Q : Act → Prop} {a : Act} {o : Oper} (h : Q a) : wpQuietIn F n P ops C Q [skipOf o] a := by
  refine wpQuietIn_step (fun w _ f hf => by simp [Oper.about, skipOf] at hf) (fun K hK => ?_)
  rw [if_pos (by rfl)]
  exact ⟨undef, fun w _ => ⟨rfl, rfl⟩, hK _ (wpQuietIn_nil h)⟩
/-- The region. C: 'some draws later'. -/
theorem wpIn_round_store {id k : Nat} {Q : Exit → Act → World → Prop} {a : Act} {w : World} {os : List Oper} {o : Oper} (hm : P.follows .mixedOrders = true) (ho : os[k]? = some o) (hk : os.length = k + 1) (hdst : o.dst = none)
    (hnd : noDefer os.toArray = true) (hb : backB os.toArray = true) (hl : lastB .any os.toArray k = true) (hB : Region.lexB .any (os.set k (skipOf o)).toArray = true)
    (h : wpQuietIn F n P (os.set k (skipOf o)).toArray (fun w' => ∃ m, w' = w.drewN m) (fun a' => ∀ w', (∃ m, w' = w.drewN m) → wpOpIn (F.inRound l) n P os.toArray Q k (fun a w => Q .normal a w) a' w') (os.set k (skipOf o)) a) : (Code.region id os.toArray true).wpIn (F.inRound l) n P Q a w := by
  simp only [Region.lexB, Bool.and_eq_true] at hB
  have hlt : k < os.length := by omega
  refine wpIn_region_any hm (any_of_quiet_last (F := F) (C := fun w' => ∃ m, w' = w.drewN m) (k := k) (o := o) (ops' := (os.set k (skipOf o)).toArray) hnd hb (by simpa using hk) (by simpa using ho) hl (by simp) (fun i hi => ?_) ?_ hdst _ _ _ _ (by simp) (by simp [Array.getD, hlt]) ⟨1, rfl⟩ ?_)
  · simp [List.getElem?_set, Ne.symm hi]
  · simp [List.getElem?_set, hlt]
  · have := wpAnyQIn_lex (F := F) (n := n) (C := fun w' => ∃ m, w' = w.drewN m) (md := .any) hB.1 (os.set k (skipOf o)) 0 (Array.replicate os.toArray.size false) a (by simp) (by simpa using hB.2) h
    simpa using this
end
end Go.Proofs.Ythajooipaiiieaa.Round
