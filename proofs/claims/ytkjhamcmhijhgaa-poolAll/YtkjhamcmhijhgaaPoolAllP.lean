/- All jobs of some, plain: how often each number comes; a row that its own jobs are put to; what a run that is not cancelled comes to. -/
import Derived.Test.YtkjhamcmhijhgaaAll14
import Derived.Maps.AppendAt
import Derived.Laws.AppendOwnNone
namespace Go.Proofs.Ytkjhamcmhijhgaa.Pool
open Go.RowKit Go.Proofs.Ytkjhamcmhijhgaa.Dig Go.Proofs.Ytkjhamcmhijhgaa.Mem Go.Proofs.Ytkjhamcmhijhgaa.Dq Go.Proofs.Ytkjhamcmhijhgaa.Pick Go.Proofs.Ytkjhamcmhijhgaa.Sets
set_option linter.unusedVariables false
set_option linter.unusedSimpArgs false

def sumF (g : Int → Nat) : Nat → Int → Nat
  | 0, x => g x
  | n + 1, x => g x + ((halfL x).map (sumF g n)).sum
theorem half_less {x y : Int} (h : y ∈ halfL x) : y.toNat < x.toNat := by
  unfold halfL at h
  split at h
  · cases h
  · simp only [List.mem_cons, List.not_mem_nil, or_false] at h
    omega
theorem sum_same {f g : Int → Nat} {l : List Int} (h : ∀ x ∈ l, f x = g x) : (l.map f).sum = (l.map g).sum := by
  rw [List.map_congr_left h]
theorem sumF_more (g : Int → Nat) : ∀ (n : Nat) (x : Int), x.toNat ≤ n → sumF g (n + 1) x = sumF g n x
  | 0, x, h => by
    have : halfL x = [] := by unfold halfL; rw [if_pos (by omega)]
    simp [sumF, this]
  | n + 1, x, h => by
    show g x + ((halfL x).map (sumF g (n + 1))).sum = g x + ((halfL x).map (sumF g n)).sum
    rw [sum_same (fun y hy => sumF_more g n y (by have := half_less hy; omega))]
theorem sumF_stay (g : Int → Nat) (x : Int) : ∀ d : Nat, sumF g (x.toNat + d) x = sumF g x.toNat x
  | 0 => rfl
  | d + 1 => by rw [← Nat.add_assoc, sumF_more g _ x (by omega), sumF_stay g x d]
/-- Of all that comes of a number, the sum. -/
def allF (g : Int → Nat) (x : Int) : Nat := sumF g x.toNat x
theorem allF_eq (g : Int → Nat) (x : Int) : allF g x = g x + ((halfL x).map (allF g)).sum := by
  show sumF g x.toNat x = _
  rw [← sumF_more g x.toNat x (Nat.le_refl _)]
  show g x + ((halfL x).map (sumF g x.toNat)).sum = _
  rw [sum_same (f := sumF g x.toNat) (g := allF g) (fun y hy => by
    have h := half_less hy
    have := sumF_stay g y (x.toNat - y.toNat)
    rw [show y.toNat + (x.toNat - y.toNat) = x.toNat by omega] at this
    exact this)]
/-- A row to whose end the jobs of its k-th one are put, k by k. -/
structure Bfs (js : List Int) (k : Nat) (r : List Int) : Prop where
  le : k ≤ r.length
  ok : ∀ x ∈ r, SmallJ x ∧ (Lit.int .i64 x).wf = true
  sum : ∀ f g : Int → Nat, (∀ x, f x = g x + ((halfL x).map f).sum) → ((r.take k).map g).sum + ((r.drop k).map f).sum = (js.map f).sum
theorem ones (l : List Int) : (l.map fun _ => 1).sum = l.length := by
  induction l with
  | nil => rfl
  | cons x l ih => simp only [List.map_cons, List.sum_cons, List.length_cons, ih]; omega
theorem Bfs.start {js : List Int} (h : ∀ x ∈ js, SmallJ x ∧ (Lit.int .i64 x).wf = true) : Bfs js 0 js := ⟨Nat.zero_le _, h, fun f g _ => by simp⟩
theorem Bfs.next {js r : List Int} {k : Nat} (h : Bfs js k r) (hk : k < r.length) : Bfs js (k + 1) (r ++ halfL (r.getD k 0)) := by
  have hx : r.getD k 0 = r[k] := by rw [List.getD_eq_getElem?_getD, List.getElem?_eq_getElem hk]; rfl
  have hm : r[k] ∈ r := List.getElem_mem hk
  refine ⟨by rw [List.length_append]; omega, fun x hx2 => ?_, fun f g hf => ?_⟩
  · rcases List.mem_append.1 hx2 with q | q
    · exact h.ok x q
    · rw [hx] at q
      exact ⟨half_small _ (h.ok _ hm).1 x q, half_wf2 (h.ok _ hm).1 x q⟩
  · have h0 := h.sum f g hf
    rw [List.drop_eq_getElem_cons hk] at h0
    rw [List.take_append_of_le_length (by omega), List.drop_append_of_le_length (by omega), List.take_add_one, List.getElem?_eq_getElem hk, hx]
    simp only [Option.toList_some, List.map_append, List.map_cons, List.map_nil, List.sum_append, List.sum_cons, List.sum_nil] at h0 ⊢
    have := hf r[k]
    omega
theorem Bfs.small {js r : List Int} {k : Nat} (h : Bfs js k r) : r.length ≤ jobsL js ∧ (k < r.length → k < jobsL js) := by
  have h1 := h.sum jobs1 (fun _ => 1) jobs1_eq
  have h2 : (r.drop k).length ≤ ((r.drop k).map jobs1).sum := by
    generalize r.drop k = l
    induction l with
    | nil => simp
    | cons x l ih => have := jobs1_pos x; simp only [List.map_cons, List.sum_cons, List.length_cons]; omega
  have h3 := h.le
  rw [ones, List.length_take] at h1
  rw [List.length_drop] at h2
  unfold jobsL
  omega
theorem Bfs.done {js r : List Int} (h : Bfs js r.length r) : r.length = jobsL js ∧ ∀ v, cntL v r = (js.map (allF fun x => if x = v then 1 else 0)).sum := by
  refine ⟨?_, fun v => ?_⟩
  · have h1 := h.sum jobs1 (fun _ => 1) jobs1_eq
    rw [List.take_length, List.drop_length, ones] at h1
    simpa [jobsL] using h1
  · have h1 := h.sum (allF fun x => if x = v then 1 else 0) (fun x => if x = v then 1 else 0) (allF_eq _)
    rw [List.take_length, List.drop_length] at h1
    simpa [cntL] using h1
theorem sumL_cons (f : Int → Nat) (κ : W1 Int) (ks : List (W1 Int)) : sumL f (κ :: ks) = (κ.l.map f).sum + (if κ.h = true then f κ.x else 0) + sumL f ks := by simp [sumL]
theorem sum_none {ks : List (W1 Int)} (h : leftL ks = 0) (f : Int → Nat) : sumL f ks = 0 := by
  rw [left_sum] at h
  induction ks with
  | nil => rfl
  | cons κ ks ih =>
    rw [sumL_cons] at h ⊢
    have h1 := ih (by omega)
    have h2 : κ.l = [] := by
      cases hl : κ.l with
      | nil => rfl
      | cons x l => rw [hl] at h; simp only [List.map_cons, List.sum_cons] at h; omega
    have h3 : κ.h = false := by
      cases hh : κ.h with
      | false => rfl
      | true => rw [hh] at h; simp at h
    rw [h1, h2, h3]
    rfl
/-- What a run that is not cancelled comes to. -/
structure Alls (L : List Int) (l : List Int) (s s' : PS Int) (n' : Nat) : Prop where
  is : runS halfL 0 L (-1) (2 * jobsL l + 1) s 0 = (s', n', 0)
  steps : n' = 2 * jobsL l
  left : leftL s'.ks = 0
  dn : s'.dn.length = jobsL l
  cnt : ∀ v, cntL v s'.dn = (l.map (allF fun x => if x = v then 1 else 0)).sum
  who : s'.who.length = 2 * jobsL l
theorem alls (L : List Int) {r : Nat} {l : List Int} {s : PS Int} (h : Started r l s) : ∃ s' n', Alls L l s s' n' := by
  have ht := h.todo
  obtain ⟨R, hR⟩ : ∃ R, R = runS halfL 0 L (-1) (2 * jobsL l + 1) s 0 := ⟨_, rfl⟩
  have hr := run_ran (of := halfL) (d0 := 0) (L := L) (c := -1) (J := jobs1) (f := jobs1) (g := fun _ => 1) jobs1_eq jobs1_eq (2 * jobsL l + 1) s 0 (by omega)
  have hv := fun v : Int => run_ran (of := halfL) (d0 := 0) (L := L) (c := -1) (J := jobs1) (f := allF fun x => if x = v then 1 else 0) (g := fun x => if x = v then 1 else 0) jobs1_eq (allF_eq _) (2 * jobsL l + 1) s 0 (by omega)
  rw [← hR] at hr hv
  obtain ⟨s', n', E⟩ := R
  have hst := hr.steps
  have hwho := hr.who
  have hsum := hr.sum
  rw [h.dn, h.sum jobs1] at hsum
  rw [h.who] at hwho
  have hjl : (l.map jobs1).sum = jobsL l := rfl
  rcases hr.way with ⟨q1, q2⟩ | ⟨q1, q2, q3⟩
  · simp only at q1 q2 hst hwho hsum
    subst q1
    have hl : leftL s'.ks = 0 := (left_todo jobs1_pos s'.ks).1.2 q2
    rw [ones, sum_none hl] at hsum
    simp only [List.map_nil, List.sum_nil, List.length_nil] at hsum hwho
    refine ⟨s', n', hR.symm, by omega, hl, by omega, fun v => ?_, by omega⟩
    have h1 := (hv v).sum
    rw [h.dn, h.sum, sum_none hl] at h1
    simpa [cntL] using h1
  · unfold over at q3
    simp at q3
/-- append of a row that is read: what has turned. -/
theorem app_at {w : World} {ops : Array Oper} {rest : List Oper} {o : Oper} {a : Act} {Q : Exit → Act → World → Prop} (hgd : o.guard = none) (s x : Operand)
    (ho : o.op = .call { callee := .builtin .append, args := #[s, x], argTypes := #[22, 22] }) (base : Nat) (v : Value) (n : Nat) (xs : List Value) (hs : a.eval s = v) (hown : w.ownsRow base 3 1 v n xs)
    (ao : Option Addr) (c m : Nat) (r : List Int) (hx : a.eval x = .slice ao m c) (hm : m = r.length) (hr : RowI w ao c r) (hb : n + r.length ≤ 1000000) (hbase : base ≤ w.heap.size)
    (h : ∀ v' w', w'.ownsRow base 3 1 v' (n + r.length) (xs ++ r.map (Value.int .i64)) → w.grownBy w' v.ownBlock → (v'.ownBlock = v.ownBlock ∨ v'.ownBlock = some w.heap.size) → wpList Try.prog ops Q rest (a.put o.dst v') w') : wpList Try.prog ops Q (o :: rest) a w := by
  obtain ⟨i0, hi, hz0, hz1, hz2⟩ := info_parts Try.infoInt
  subst hm
  cases ao with
  | none =>
    have hr0 : r = [] := by
      cases r with
      | nil => rfl
      | cons y r => obtain ⟨b, off, e', _⟩ := hr.at (i := 0) (by simp); cases e'
    subst hr0
    have hc : c = 0 := hr.nil rfl
    subst hc
    exact wpList_append_own_none hgd s x 22 ho base 3 i0 1 Try.underlying22 hi v n xs hs hown hx (h v w (by simpa using hown) ⟨rfl, rfl, rfl, Nat.le_refl _, fun _ _ _ => rfl⟩ (.inl rfl))
  | some ad =>
    refine wpList_append_own_at w hgd s x 22 ho base 3 i0 (.int .i64 0) 1 8 Try.underlying22 hi hz0 hz1 hz2 rfl (by decide) v n xs hs hown ad r.length c (r.map (Value.int .i64)) hx (by simp) ?_ ?_ (by unfold maxLen; omega) (by omega) hbase ?_
    · intro j u hu
      rw [List.getElem?_map] at hu
      have hj : j < r.length := by
        rcases Nat.lt_or_ge j r.length with q | q
        · exact q
        · rw [List.getElem?_eq_none q] at hu; simp at hu
      obtain ⟨b, off, hab, hc⟩ := hr.at hj
      obtain rfl := Option.some.inj hab
      rw [Addr.add_lit, hc, ← hu]
      simp [List.getD_eq_getElem?_getD, List.getElem?_eq_getElem hj]
    · intro u hu
      obtain ⟨n, _, rfl⟩ := List.mem_map.1 hu
      rfl
    · intro v' w' hown' hgrow _ hat
      exact h v' w' hown' hgrow hat
theorem own_at {w : World} {base n c : Nat} {a : Option Addr} {l : List Int} (h : OwnI base w (.slice a n c) l) (hl : l.length ≤ 1000000) (hw : ∀ x ∈ l, (Lit.int .i64 x).wf = true) {k : Nat} (hk : k < l.length) : ∃ b off, a = some ⟨b, off, none⟩ ∧ w.cell? ⟨b, off + k, none⟩ = some (.int .i64 (l.getD k 0)) := by
  obtain ⟨a, c', e, hr, _⟩ := h.row (by omega) hw
  obtain ⟨b', off', e2, hc⟩ := hr.at hk
  cases e
  exact ⟨b', off', e2, hc⟩
theorem own_row {w : World} {base n c : Nat} {a : Option Addr} {l : List Int} (h : OwnI base w (.slice a n c) l) (hl : l.length ≤ 1000000) (hw : ∀ x ∈ l, (Lit.int .i64 x).wf = true) : RowI w a c l := by
  obtain ⟨a, c', e, hr, _⟩ := h.row (by omega) hw
  cases e
  exact hr
theorem cnt_pos {v : Int} {l : List Int} : 0 < cntL v l ↔ v ∈ l := by
  unfold cntL
  induction l with
  | nil => simp
  | cons x l ih =>
    simp only [List.map_cons, List.sum_cons, List.mem_cons]
    by_cases h : x = v
    · simp only [h, if_true, true_or, iff_true]; omega
    · rw [if_neg h, Nat.zero_add, ih]
      simp [Ne.symm h]
theorem own_cell {w : World} {base b off n c : Nat} {sp : Option _} {l : List Int} (h : OwnI base w (.slice (some ⟨b, off, sp⟩) n c) l) (hl : l.length ≤ 1000000) (hw : ∀ x ∈ l, (Lit.int .i64 x).wf = true) {k : Nat} (hk : k < l.length) : sp = none ∧ w.cell? ⟨b, off + k, none⟩ = some (.int .i64 (l.getD k 0)) := by
  obtain ⟨a, c', e, hr, _⟩ := h.row (by omega) hw
  obtain ⟨b', off', e2, hc⟩ := hr.at hk
  cases e
  cases e2
  exact ⟨rfl, hc⟩
end Go.Proofs.Ytkjhamcmhijhgaa.Pool
