/- Joined out of the texts RegionTail, DqMem, BitRange, DqEach, DqSize, in that order. -/
import Derived.Test.YtkjdjmcecjaolaaAll5
import Derived.WalkKit
import Derived.Deep.QuietTactic
import Derived.BigQuiet
import Derived.Deep.DeepMust
import Derived.Shelf.Abstract
import Derived.Shelf.RegionOpen
import Derived.OwnWalkIn
import Derived.TacticsInMore
import Derived.LoopNIn
import Derived.LoopIn
import Derived.Test.YtkjdjmcecjaolaaAll1
import Derived.RangeFuncBox
import Derived.RangeFuncNested
import Derived.RangeFuncBound
import Derived.RangeFuncCalls
import Derived.RangeFuncLeaves
import Derived.RangeFuncWrites
import Derived.Laws.MakeOwn
/- A region whose operations read alone up to a place, and come up one by one, in the text's order, from there on (each waits for all ahead of it): one walk in the text's order serves every order. -/
namespace Go.Proofs.Ytkjdjmcecjaolaa.Round
open Go Go.RowKit
set_option linter.unusedVariables false
set_option linter.unusedSimpArgs false

section
variable {F F' : Fence} {n : Nat} {P : Program} {ops ops' : Array Oper} {md : Region.Mode} {C : World → Prop}
/-- What holds within the one fence holds within the other. -/
structure Grants (F F' : Fence) (n : Nat) (P : Program) : Prop where
  fn : F'.fn = F.fn
  depth : F'.depth = F.depth
  calls : ∀ {f : Nat} {args : Array Value} {w : World} {Post : Ending → World → Prop}, CallsIn F (n - 1) P f args w Post → CallsIn F' (n - 1) P f args w Post
theorem Grants.refl (F : Fence) (n : Nat) (P : Program) : Grants F F n P := ⟨rfl, rfl, fun h => h⟩
theorem Grants.round (F : Fence) (n : Nat) (P : Program) (l : Nat) : Grants F (F.inRound l) n P := ⟨rfl, rfl, fun h => CallsIn.inRound l h⟩
def plainB (ops : Array Oper) : Bool := ops.all fun o => o.guard.isNone
theorem plainB_spec (h : plainB ops = true) {i : Nat} {o : Oper} (ho : ops[i]? = some o) : o.guard = none := by
  have := Array.all_eq_true_iff_forall_mem.1 h o (Array.mem_of_getElem? ho)
  simpa using this
theorem wanted_plain {o : Oper} (h : o.guard = none) (y : Nat → Option Bool) : Region.wanted o y = true := by simp [Region.wanted, h]
theorem wpIn_of_quiet_tail (hG : Grants F F' n P) {o : Oper} {a : Act} {K : Act → Prop} {K' : Act → World → Prop} {Q' : Exit → Act → World → Prop} {w : World} (hnd : ∀ c, o.op ≠ .defer c) (hw : C w) (h : ∀ a w', C w' → K a → K' a w')
    (ha : o.askedIn F P a C) (hh : o.quietIn F n P a C K) : o.wpIn F' n P a w K' Q' := by
  obtain ⟨v, h1, h2⟩ := hh
  have h3 := h1 w hw
  unfold Oper.quietAtIn at h3
  unfold Oper.wpIn
  refine ⟨by rw [hG.fn]; exact ha w hw, ?_⟩
  rw [Oper.semAt_eq _ _ _ hnd]
  generalize (execOp a.eval o).run P w = r at *
  cases r with
  | ok x w' =>
    cases x <;> simp only [Oper.quietUponIn] at h3 <;> simp only [Oper.uponIn]
    case value u =>
      obtain ⟨e1, e2⟩ := h3
      rw [e1, e2]
      exact h _ _ hw h2
    case skip =>
      obtain ⟨e1, e2⟩ := h3
      rw [e1, ← e2]
      exact h _ _ hw h2
    case enter f args =>
      obtain ⟨e1, hd, hc⟩ := h3
      rw [e1]
      exact ⟨by rw [hG.depth]; exact hd, (hG.calls hc).mono fun e w'' ⟨he, hw''⟩ => by subst he; exact h _ _ hw'' h2⟩
  | halt x w' => simp only [Oper.quietUponIn] at h3
theorem wpOpIn_of_qOpIn_tail (hG : Grants F F' n P) {i : Nat} {a : Act} {K : Act → Prop} {K' : Act → World → Prop} {Q' : Exit → Act → World → Prop} {w : World} (hnd : noDefer ops = true) (hp : plainB ops = true) (hi : ops'[i]? = ops[i]?) (hC : C w) (h : ∀ a w', C w' → K a → K' a w')
    (hh : qOpIn F n P ops' C i K a) : wpOpIn F' n P ops Q' i K' a w := by
  unfold qOpIn at hh
  unfold wpOpIn
  rw [hi] at hh
  split
  · rename_i ho; simp only [ho] at hh; exact h _ _ hC hh
  · rename_i o ho
    simp only [ho] at hh
    obtain ⟨ha, hh⟩ := hh
    have hg := plainB_spec hp ho
    rw [if_pos (wanted_plain hg _)] at hh ⊢
    exact wpIn_of_quiet_tail hG (noDefer_spec hnd ho) hC h ha hh
/-- Number i waits for number j, maybe by others. -/
def anc (md : Region.Mode) (ops : Array Oper) : Nat → Nat → Nat → Bool
  | 0, _, _ => false
  | f + 1, i, j => match ops[i]? with
    | some o => o.after.any fun e => Region.binds md e && (e.on == j || anc md ops f e.on j)
    | none => false
/-- Each from k on waits for all ahead of it. -/
def tailB (md : Region.Mode) (ops : Array Oper) (k : Nat) : Bool := (List.range ops.size).all fun i => decide (i < k) || (List.range i).all fun j => anc md ops ops.size i j
/-- What has come up waits for nothing that hasn't. -/
def Shut (md : Region.Mode) (ops : Array Oper) (listed : Array Bool) : Prop := ∀ i o, ops[i]? = some o → listed.getD i false = true → ∀ e ∈ o.after, Region.binds md e = true → listed.getD e.on false = true
theorem anc_shut {listed : Array Bool} (hs : Shut md ops listed) : ∀ (f i j : Nat), listed.getD i false = true → anc md ops f i j = true → listed.getD j false = true
  | 0, _, _, _, h => by cases h
  | f + 1, i, j, hi, h => by
    unfold anc at h
    split at h
    · rename_i o ho
      obtain ⟨q, hqs, hq⟩ := Array.any_eq_true.1 h
      rw [Bool.and_eq_true, Bool.or_eq_true, beq_iff_eq] at hq
      have h2 := hs i o ho hi _ (Array.getElem_mem hqs) hq.1
      rcases hq.2 with e | e
      · rw [← e]; exact h2
      · exact anc_shut hs f _ j h2 e
    · cases h
theorem anc_ready {listed : Array Bool} (hs : Shut md ops listed) {f i j : Nat} (hi : i ∈ Region.ready md ops listed) (h : anc md ops f i j = true) : listed.getD j false = true := by
  obtain ⟨_, o, ho, h2⟩ := mem_ready.1 hi
  cases f with
  | zero => cases h
  | succ f =>
    unfold anc at h
    rw [ho] at h
    obtain ⟨q, hqs, hq⟩ := Array.any_eq_true.1 h
    rw [Bool.and_eq_true, Bool.or_eq_true, beq_iff_eq] at hq
    have h3 := h2 _ (Array.getElem_mem hqs) hq.1
    rcases hq.2 with e | e
    · rw [← e]; exact h3
    · exact anc_shut hs f _ j h3 e
theorem Shut.next {listed : Array Bool} (hs : Shut md ops listed) (hz : listed.size = ops.size) {i : Nat} (hi : i ∈ Region.ready md ops listed) : Shut md ops (listed.setIfInBounds i true) := fun j o ho hj e he hb => by
  have hlt : i < listed.size := by
    obtain ⟨_, o2, ho2, _⟩ := mem_ready.1 hi
    have := (Array.getElem?_eq_some_iff.1 ho2).1
    omega
  have key : listed.getD e.on false = true → (listed.setIfInBounds i true).getD e.on false = true := fun h => by
    by_cases q : i = e.on
    · rw [← q]; exact getD_set_same false hlt
    · have hlt2 : e.on < listed.size := by
        apply Nat.lt_of_not_le
        intro r
        simp [Array.getD, show ¬ e.on < listed.size by omega] at h
      rw [listed_default (by simpa using hlt2) false true, getD_set_ne true q, listed_default hlt2 true false]
      exact h
  by_cases q : i = j
  · subst q
    obtain ⟨_, o2, ho2, h2⟩ := mem_ready.1 hi
    rw [ho] at ho2
    obtain rfl := Option.some.inj ho2
    exact key (h2 e he hb)
  · have hjs : j < listed.size := by have := (Array.getElem?_eq_some_iff.1 ho).1; omega
    rw [listed_default (by simpa using hjs) false true, getD_set_ne true q, listed_default hjs true false] at hj
    exact key (hs j o ho hj e he hb)
/-- One of those may come up only behind all ahead of it. -/
theorem tail_ready {k : Nat} (h : tailB md ops k = true) {listed : Array Bool} (hsh : Shut md ops listed) (hs : listed.size = ops.size) {i : Nat} (hi : i ∈ Region.ready md ops listed) (hk : k ≤ i) : ∀ j, j < i → listed.getD j true = true := fun j hj => by
  obtain ⟨_, o, ho, h2⟩ := mem_ready.1 hi
  have hlt : i < ops.size := (Array.getElem?_eq_some_iff.1 ho).1
  unfold tailB at h
  have h1 := List.all_eq_true.1 h i (List.mem_range.2 hlt)
  rw [decide_eq_false (by omega), Bool.false_or] at h1
  have h3 := List.all_eq_true.1 h1 j (List.mem_range.2 hj)
  rw [listed_default (by omega) true false]
  exact anc_ready hsh hi h3
/-- The first j have come up, no other one has. -/
structure Upto (ops : Array Oper) (listed : Array Bool) (j : Nat) : Prop where
  size : listed.size = ops.size
  yes : ∀ i, i < j → listed.getD i true = true
  no : ∀ i, j ≤ i → i < ops.size → listed.getD i true = false
theorem Upto.next {listed : Array Bool} {j : Nat} (h : Upto ops listed j) (hj : j < ops.size) : Upto ops (listed.setIfInBounds j true) (j + 1) :=
  ⟨by simp [h.size], fun i hi => by
    by_cases e : i = j
    · subst e; exact getD_set_same true (by have := h.size; omega)
    · rw [getD_set_ne true (Ne.symm e)]; exact h.yes i (by omega), fun i hi hs => by
    rw [getD_set_ne true (by omega)]; exact h.no i (by omega) hs⟩
theorem Upto.over {listed : Array Bool} (h : Upto ops listed ops.size) : Region.ready md ops listed = [] := by
  rw [List.eq_nil_iff_forall_not_mem]
  intro j hj
  obtain ⟨h2, o2, ho2, _⟩ := mem_ready.1 hj
  have hjs : j < ops.size := (Array.getElem?_eq_some_iff.1 ho2).1
  rw [h.yes j hjs] at h2
  cases h2
theorem Upto.shut {listed : Array Bool} {j : Nat} (hb : backB ops = true) (h : Upto ops listed j) : Shut md ops listed := fun i o ho hi e he _ => by
  have hlt : i < ops.size := (Array.getElem?_eq_some_iff.1 ho).1
  have hij : i < j := by
    apply Nat.lt_of_not_le
    intro q
    have := h.no i q hlt
    rw [listed_default (by have := h.size; omega) true false, hi] at this
    cases this
  have hel := backB_spec hb ho he
  have := h.yes e.on (by omega)
  rw [listed_default (by have := h.size; omega) true false] at this
  exact this
theorem Upto.one {listed : Array Bool} {j k : Nat} (hb : backB ops = true) (ht : tailB md ops k = true) (h : Upto ops listed j) (hk : k ≤ j) (hj : j < ops.size) : (∀ i, i ∈ Region.ready md ops listed → i = j) ∧ j ∈ Region.ready md ops listed := by
  have h1 : ∀ i, i ∈ Region.ready md ops listed → i = j := fun i hi => by
    obtain ⟨h2, o2, ho2, _⟩ := mem_ready.1 hi
    have his : i < ops.size := (Array.getElem?_eq_some_iff.1 ho2).1
    rcases Nat.lt_trichotomy i j with q | q | q
    · rw [h.yes i q] at h2; cases h2
    · exact q
    · have := tail_ready ht (h.shut hb) h.size hi (by omega) j q
      rw [h.no j (Nat.le_refl _) hj] at this
      cases this
  refine ⟨h1, ?_⟩
  have h0 := ready_some (md := md) hb h.size (h.no j (Nat.le_refl _) hj)
  obtain ⟨x, hx⟩ := List.exists_mem_of_ne_nil _ h0
  have := h1 x hx
  subst this
  exact hx
/-- The rest, in the text's order. -/
theorem any_tail {Q : Exit → Act → World → Prop} {k : Nat} (hb : backB ops = true) (ht : tailB md ops k = true) (hp : plainB ops = true) :
    ∀ (post : List Oper) (j fuel : Nat) (listed : Array Bool) (a : Act) (w : World), (∀ i, post[i]? = ops[j + i]?) → k ≤ j → j + post.length = ops.size → Upto ops listed j → post.length ≤ fuel → wpListIn F' n P ops Q post a w → wpAnyIn F' n P md ops Q fuel listed a w
  | [], j, fuel, listed, a, w, _, hk, hj, hu, _, h => by
    simp only [List.length_nil, Nat.add_zero] at hj
    subst hj
    exact wpAnyIn_done hu.over h fuel
  | o :: post, j, 0, listed, a, w, _, _, _, _, hf, _ => by simp at hf
  | o :: post, j, fuel + 1, listed, a, w, hp', hk, hj, hu, hf, h => by
    simp only [List.length_cons] at hj hf
    have h1 := hu.one hb ht hk (by omega)
    refine ⟨fun h0 => (by rw [h0] at h1; cases h1.2), fun i hi => ?_⟩
    obtain rfl := h1.1 i hi
    have ho : ops[i]? = some o := by simpa using (hp' 0).symm
    have hg := plainB_spec hp ho
    unfold wpOpIn
    rw [ho]
    simp only [wanted_plain hg, if_true]
    unfold wpListIn at h
    rw [if_pos (wanted_plain hg _)] at h
    refine Oper.wpIn_mono (fun a' w' q => ?_) h
    exact any_tail hb ht hp post (i + 1) fuel _ a' w' (fun m => by have := hp' (m + 1); simpa [Nat.add_assoc, Nat.add_comm 1 m] using this) (by omega) (by omega) (hu.next (by omega)) (by omega) q
/-- The same operations, those from k on skipped. -/
structure Skips (ops ops' : Array Oper) (k : Nat) : Prop where
  size : ops'.size = ops.size
  same : ∀ i, i < k → ops'[i]? = ops[i]?
  skip : ∀ i o, k ≤ i → ops[i]? = some o → ops'[i]? = some (skipOf o)
theorem Skips.ready {k : Nat} (h : Skips ops ops' k) (listed : Array Bool) : Region.ready md ops' listed = Region.ready md ops listed := by
  have hafter : ∀ i, (ops'[i]?).map Oper.after = (ops[i]?).map Oper.after := fun i => by
    rcases Nat.lt_or_ge i k with q | q
    · rw [h.same i q]
    · rcases Nat.lt_or_ge i ops.size with r | r
      · obtain ⟨o, ho⟩ : ∃ o, ops[i]? = some o := ⟨ops[i], by simp [r]⟩
        rw [h.skip i o q ho, ho]
        rfl
      · have h2 := h.size
        rw [Array.getElem?_eq_none r, Array.getElem?_eq_none (by omega)]
  unfold Region.ready
  rw [h.size]
  apply List.filter_congr
  intro i _
  have := hafter i
  cases h1 : ops'[i]? with
  | none => rw [h1] at this; cases h2 : ops[i]? with
    | none => rfl
    | some x => rw [h2] at this; cases this
  | some y => rw [h1] at this; cases h2 : ops[i]? with
    | none => rw [h2] at this; cases this
    | some x => rw [h2] at this; simp at this; simp [this]
theorem quiet_tail {Qf : Act → Prop} {k : Nat} (hs : Skips ops ops' k) (hb : backB ops = true) (ht : tailB md ops k = true) :
    ∀ (d j fuel : Nat) (listed : Array Bool) (a : Act), k ≤ j → j + d = ops.size → Upto ops listed j → wpAnyQIn F n P md ops' C Qf fuel listed a → Qf a ∧ d ≤ fuel
  | 0, j, fuel, listed, a, hk, hj, hu, h => by
    simp only [Nat.add_zero] at hj
    subst hj
    refine ⟨?_, Nat.zero_le _⟩
    cases fuel with
    | zero => exact h.2
    | succ f => exact h.1 (by rw [hs.ready]; exact hu.over)
  | d + 1, j, 0, listed, a, hk, hj, hu, h => by
    have h1 := hu.one (md := md) hb ht hk (by omega)
    have h0 : Region.ready md ops' listed = [] := h.1
    rw [hs.ready] at h0
    rw [h0] at h1
    cases h1.2
  | d + 1, j, fuel + 1, listed, a, hk, hj, hu, h => by
    have h1 := hu.one (md := md) hb ht hk (by omega)
    have h2 := h.2 j (by rw [hs.ready]; exact h1.2)
    obtain ⟨o, ho⟩ : ∃ o, ops[j]? = some o := ⟨ops[j], by simp [show j < ops.size by omega]⟩
    unfold qOpIn at h2
    rw [hs.skip j o hk ho] at h2
    obtain ⟨_, h2⟩ := h2
    have hw : Region.wanted (skipOf o) (yielded ops' a.tmps) = true := rfl
    rw [if_pos hw] at h2
    obtain ⟨v, _, h2⟩ := h2
    have h2' : wpAnyQIn F n P md ops' C Qf fuel (listed.setIfInBounds j true) a := h2
    have := quiet_tail hs hb ht d (j + 1) fuel _ a (by omega) (by omega) (hu.next (by omega)) h2'
    exact ⟨this.1, by omega⟩
theorem any_of_quiet_tail {Q : Exit → Act → World → Prop} {k : Nat} {post : List Oper} (hG : Grants F F' n P) (hnd : noDefer ops = true) (hp : plainB ops = true) (hb : backB ops = true) (ht : tailB md ops k = true) (hs : Skips ops ops' k) (hpost : ∀ i, post[i]? = ops[k + i]?) (hk : k + post.length = ops.size) :
    ∀ (fuel : Nat) (listed : Array Bool) (a : Act) (w : World), listed.size = ops.size → Shut md ops listed → (∀ i, k ≤ i → i < ops.size → listed.getD i true = false) → C w →
      wpAnyQIn F n P md ops' C (fun a' => ∀ w', C w' → wpListIn F' n P ops Q post a' w') fuel listed a → wpAnyIn F' n P md ops Q fuel listed a w := by
  intro fuel
  induction fuel with
  | zero =>
    intro listed a w h1 hsh h2 hC h
    by_cases hall : ∀ i, i < k → listed.getD i true = true
    · have hu : Upto ops listed k := ⟨h1, hall, h2⟩
      have q := quiet_tail hs hb ht post.length k 0 listed a (Nat.le_refl _) hk hu h
      exact any_tail hb ht hp post k 0 listed a w hpost (Nat.le_refl _) hk hu q.2 (q.1 w hC)
    · have h0 : Region.ready md ops' listed = [] := h.1
      rw [hs.ready] at h0
      refine absurd h0 ?_
      simp only [Classical.not_forall] at hall
      obtain ⟨i, hi, hf⟩ := hall
      exact ready_some hb h1 (k := i) (by cases e : listed.getD i true with | true => exact absurd e hf | false => rfl)
  | succ fuel ih =>
    intro listed a w h1 hsh h2 hC h
    by_cases hall : ∀ i, i < k → listed.getD i true = true
    · have hu : Upto ops listed k := ⟨h1, hall, h2⟩
      have q := quiet_tail hs hb ht post.length k (fuel + 1) listed a (Nat.le_refl _) hk hu h
      exact any_tail hb ht hp post k (fuel + 1) listed a w hpost (Nat.le_refl _) hk hu q.2 (q.1 w hC)
    · refine ⟨fun h0 => ?_, fun i hi => ?_⟩
      · refine absurd h0 ?_
        simp only [Classical.not_forall] at hall
        obtain ⟨i, hi, hf⟩ := hall
        exact ready_some hb h1 (k := i) (by cases e : listed.getD i true with | true => exact absurd e hf | false => rfl)
      · have hik : i < k := by
          rcases Nat.lt_or_ge i k with q | q
          · exact q
          · exact absurd (fun j hj => tail_ready ht hsh h1 hi q j (by omega)) hall
        have h3 := h.2 i (by rw [hs.ready]; exact hi)
        exact wpOpIn_of_qOpIn_tail hG hnd hp (hs.same i hik) hC (fun a' w' hC' h' => ih _ a' w' (by simp [h1]) (hsh.next h1 hi) (fun j hj hjs => by rw [getD_set_ne true (by omega)]; exact h2 j hj hjs) hC' h') h3
theorem wpQuietIn_skips {Q : Act → Prop} {a : Act} : ∀ l : List Oper, Q a → wpQuietIn F n P ops C Q (l.map skipOf) a
  | [], h => wpQuietIn_nil h
  | o :: l, h => by
    refine wpQuietIn_step (fun w _ f hf => by simp [Oper.about, skipOf] at hf) (fun K hK => ?_)
    rw [if_pos (by rfl)]
    exact ⟨undef, fun w _ => ⟨rfl, rfl⟩, hK _ (wpQuietIn_skips l h)⟩
theorem wpQuietIn_app {Q : Act → Prop} {post : List Oper} : ∀ (pre : List Oper) (a : Act), (∀ o ∈ pre, o.guard = none) → wpQuietIn F n P ops C (wpQuietIn F n P ops' C Q post) pre a → wpQuietIn F n P ops' C Q (pre ++ post) a
  | [], a, _, h => h
  | o :: pre, a, hg, h => by
    have hw := hg o (by simp)
    refine ⟨h.1, ?_⟩
    have h2 := h.2
    rw [if_pos (wanted_plain hw _)] at h2 ⊢
    obtain ⟨v, q1, q2⟩ := h2
    exact ⟨v, q1, wpQuietIn_app pre _ (fun o' ho' => hg o' (List.mem_cons_of_mem _ ho')) q2⟩
theorem wpQuietIn_mono {Q Q' : Act → Prop} (hQ : ∀ a, Q a → Q' a) : ∀ (l : List Oper) (a : Act), wpQuietIn F n P ops C Q l a → wpQuietIn F n P ops C Q' l a
  | [], a, h => hQ a h
  | o :: l, a, h => by
    refine ⟨h.1, ?_⟩
    have h2 := h.2
    split
    · rename_i q
      rw [if_pos q] at h2
      exact Oper.quietIn_mono (wpQuietIn_mono hQ l) h2
    · rename_i q
      rw [if_neg q] at h2
      exact wpQuietIn_mono hQ l _ h2
/-- The region, its operations 'pre ++ post'. C: 'some draws later'. -/
theorem wpIn_region_tail {id : Nat} {Q : Exit → Act → World → Prop} {a : Act} {w : World} {os pre post : List Oper} (hG : Grants F F' n P) (hm : P.follows .mixedOrders = true) (k : Nat) (hpre : os.take k = pre) (hpost : os.drop k = post)
    (hnd : noDefer os.toArray = true) (hp : plainB os.toArray = true) (hb : backB os.toArray = true) (ht : tailB .any os.toArray k = true) (hB : Region.lexB .any (os.take k ++ (os.drop k).map skipOf).toArray = true) (hk : decide (k ≤ os.length) = true)
    (h : wpQuietIn F n P os.toArray (fun w' => ∃ m, w' = w.drewN m) (fun a' => ∀ w', (∃ m, w' = w.drewN m) → wpListIn F' n P os.toArray Q post a' w') pre a) : (Code.region id os.toArray true).wpIn F' n P Q a w := by
  subst hpre; subst hpost
  have hk := of_decide_eq_true hk
  have hlt : (os.take k).length = k := by rw [List.length_take]; omega
  have hs : Skips os.toArray (os.take k ++ (os.drop k).map skipOf).toArray k := by
    refine ⟨by simp; omega, fun i hi => ?_, fun i o hi ho => ?_⟩
    · simp only [List.getElem?_toArray]
      rw [List.getElem?_append_left (by omega), List.getElem?_take, if_pos hi]
    · simp only [List.getElem?_toArray] at ho ⊢
      rw [List.getElem?_append_right (by omega), hlt, List.getElem?_map, List.getElem?_drop, show k + (i - k) = i by omega, ho]
      rfl
  simp only [Region.lexB, Bool.and_eq_true] at hB
  refine wpIn_region_any hm (any_of_quiet_tail (F := F) (C := fun w' => ∃ m, w' = w.drewN m) (k := k) (post := os.drop k) hG hnd hp hb ht hs (fun i => by simp [List.getElem?_drop]) (by simp; omega) _ _ _ _ (by simp) (fun i o _ hi => by simp [Array.getD] at hi) (fun i _ hi => by simp only [List.size_toArray] at hi; simp [Array.getD, hi]) ⟨1, rfl⟩ ?_)
  have h2 : wpQuietIn F n P (os.take k ++ (os.drop k).map skipOf).toArray (fun w' => ∃ m, w' = w.drewN m) (fun a' => ∀ w', (∃ m, w' = w.drewN m) → wpListIn F' n P os.toArray Q (os.drop k) a' w') (os.take k ++ (os.drop k).map skipOf) a :=
    wpQuietIn_app (ops := os.toArray) _ a (fun o ho => by
      obtain ⟨i, hi, rfl⟩ := List.getElem_of_mem ho
      refine plainB_spec hp (i := i) ?_
      rw [List.length_take] at hi
      simp [show i < os.length by omega]) (wpQuietIn_mono (fun a' q => wpQuietIn_skips _ q) _ _ h)
  have := wpAnyQIn_lex (F := F) (n := n) (C := fun w' => ∃ m, w' = w.drewN m) (md := .any) hB.1 (os.take k ++ (os.drop k).map skipOf) 0 (Array.replicate os.toArray.size false) a (by simp) (by rw [show os.toArray.size = (os.take k ++ (os.drop k).map skipOf).toArray.size by simp; omega]; simpa using hB.2) h2
  have e : os.toArray.size = (os.take k ++ (os.drop k).map skipOf).length := by simp; omega
  rw [e] at this ⊢
  exact this
end
end Go.Proofs.Ytkjdjmcecjaolaa.Round

/- A deque as it lies: a struct of its ring, the top's place and how many there are; Len, at, lift. -/
namespace Go.Proofs.Ytkjdjmcecjaolaa.DqI
open Go.RowKit Go.Proofs.Ytkjdjmcecjaolaa.Dig Go.Proofs.Ytkjdjmcecjaolaa.Mem Go.Proofs.Ytkjdjmcecjaolaa.Dq
set_option linter.unusedVariables false
set_option linter.unusedSimpArgs false

def cellsOf (rs : List Int) : Array Value := (rs.map fun x : Int => (Value.int .i64 x)).toArray
theorem cells_at {rs : List Int} {i : Nat} (hi : i < rs.length) : (cellsOf rs)[i]? = some (Value.int .i64 (rs.getD i (0 : Int))) := by
  simp [cellsOf, List.getD_eq_getElem?_getD, List.getElem?_eq_getElem hi]
theorem cells_set {rs : List Int} {i : Nat} {x : Int} : (cellsOf rs).setIfInBounds i (Value.int .i64 x) = cellsOf (rs.set i x) := by
  apply Array.ext'
  simp [cellsOf, List.map_set]
/-- A deque whose ring is g: its three cells lie at o, in a block whose other cells are those of cs. -/
structure Dq (w : World) (b o : Nat) (cs : Array Value) (g n t : Nat) (rs l : List Int) : Prop where
  box : Is w b (put3 cs o (.slice (some ⟨g, 0, none⟩) n n) (.int .i64 (t : Int)) (.int .i64 (l.length : Int)))
  fit : o + 3 ≤ cs.size
  row : Is w g (cellsOf rs)
  ne : b ≠ g
  ring : Ring (0 : Int) n t rs l
  le : n ≤ 1000000
section
variable {w w' : World} {b o g n t : Nat} {cs : Array Value} {rs l : List Int}
theorem Dq.keep {S : Nat → Prop} (h : Dq w b o cs g n t rs l) (ho : Only S w w') (h1 : ¬ S b) (h2 : ¬ S g) : Dq w' b o cs g n t rs l := ⟨h.box.keep ho h1, h.fit, h.row.keep ho h2, h.ne, h.ring, h.le⟩
theorem Dq.below (h : Dq w b o cs g n t rs l) (ho : Below w.heap.size w w') : Dq w' b o cs g n t rs l := h.keep (Only.of_below (S := fun _ => False) ho) (fun q => q) (fun q => q)
theorem Dq.drewN (h : Dq w b o cs g n t rs l) (m : Nat) : Dq (w.drewN m) b o cs g n t rs l := h.below (below_of_drewN m)
theorem Dq.off (h : Dq w b o cs g n t rs l) {row : Option Nat} (hg : w.grownBy w' row) (hr : ∀ r, row = some r → ∃ o : Obj, w.heap[r]? = some o ∧ o.isCells = false) : Dq w' b o cs g n t rs l := ⟨is_off h.box hg hr, h.fit, is_off h.row hg hr, h.ne, h.ring, h.le⟩
theorem Dq.cells (h : Dq w b o cs g n t rs l) : w.cell? ⟨b, o, none⟩ = some (.slice (some ⟨g, 0, none⟩) n n) ∧ w.cell? ⟨b, o + 1, none⟩ = some (.int .i64 (t : Int)) ∧ w.cell? ⟨b, o + 2, none⟩ = some (.int .i64 (l.length : Int)) := is3 h.box h.fit
theorem Dq.at_ (h : Dq w b o cs g n t rs l) {i : Nat} (hi : i < n) : w.cell? ⟨g, i, none⟩ = some (Value.int .i64 (rs.getD i (0 : Int))) := h.row.cell i (cells_at (by rw [h.ring.len]; exact hi))
theorem len_cell {k : Int} (w : World) (h : w.cell? ⟨b, o + 2, none⟩ = some (.int .i64 k)) : Calls Try.prog 70 #[.pointer (some ⟨b, o, none⟩)] w fun e w' => e = .returned (.int .i64 k) ∧ w' = w := by
  go_enter Try.func70, Try.ntmps70
  go_wp2
  go_ret
  exact ⟨rfl, rfl⟩
theorem len_nil (w : World) : Calls Try.prog 70 #[.pointer none] w fun e w' => e = .returned (.int .i64 0) ∧ w' = w := by
  go_enter Try.func70, Try.ntmps70
  go_wp2
  go_ret
  exact ⟨rfl, rfl⟩
theorem tmod_nat (a n : Nat) : ((a : Int)).tmod (n : Int) = ((a % n : Nat) : Int) := by
  rw [Int.tmod_eq_emod_of_nonneg (by omega)]
  rfl
/-- The place of a thing in its ring. -/
theorem at_cells (w : World) (h0 : w.cell? ⟨b, o, none⟩ = some (.slice (some ⟨g, 0, none⟩) n n)) (h1 : w.cell? ⟨b, o + 1, none⟩ = some (.int .i64 (t : Int))) (ht : t < n) (hn : n ≤ 1000000) (k : Nat) (hk : k ≤ n) :
    Calls Try.prog 88 #[.pointer (some ⟨b, o, none⟩), .int .i64 (k : Int)] w fun e w' => e = .returned (.int .i64 (((t + k) % n : Nat) : Int)) ∧ ∃ m, w' = w.drewN m := by
  obtain ⟨q, hq⟩ : ∃ q, q = (t + k) % n := ⟨_, rfl⟩
  have hm : ((t : Int) + (k : Int)).tmod (n : Int) = (q : Int) := by
    rw [hq, ← tmod_nat, Int.natCast_add]
  have hn0 : ¬ (n : Int) = 0 := by omega
  have hql : q < n := by rw [hq]; exact Nat.mod_lt _ (by omega)
  rw [← hq]
  clear hq
  go_enter Try.func88, Try.ntmps88
  go_wp2
  go_quiet (fail)
  go_wp2
  go_ret
  exact ⟨rfl, _, rfl⟩
theorem at_dq (w : World) (h : Dq w b o cs g n t rs l) (k : Nat) (hk : k ≤ n) : Calls Try.prog 88 #[.pointer (some ⟨b, o, none⟩), .int .i64 (k : Int)] w fun e w' => e = .returned (.int .i64 (((t + k) % n : Nat) : Int)) ∧ ∃ m, w' = w.drewN m :=
  at_cells w h.cells.1 h.cells.2.1 h.ring.top h.le k hk
theorem at_wide (w : World) (h : Dq w b o cs g n t rs l) (k : Nat) (hk : k ≤ n) (d : Nat) : CallsIn Fence.wide d Try.prog 88 #[.pointer (some ⟨b, o, none⟩), .int .i64 (k : Int)] w fun e w' => e = .returned (.int .i64 (((t + k) % n : Nat) : Int)) ∧ ∃ m, w' = w.drewN m := callsIn_wide.2 (at_dq w h k hk)
set_option maxRecDepth 100000 in
set_option maxHeartbeats 2000000 in
theorem lift_dq (w : World) (h : Dq w b o cs g n t rs l) (k : Nat) (hk : k ≤ n) : Calls Try.prog 87 #[.pointer (some ⟨b, o, none⟩), .int .i64 (k : Int)] w fun e w' => e = .returned (Value.int .i64 (rs.getD ((t + k) % n) (0 : Int))) ∧
    Is w' b (put3 cs o (.slice (some ⟨g, 0, none⟩) n n) (.int .i64 (t : Int)) (.int .i64 (l.length : Int))) ∧ Is w' g (cellsOf (rs.set ((t + k) % n) (0 : Int))) ∧ Only (fun k => k = g) w w' := by
  obtain ⟨h0, h1, h2⟩ := h.cells
  have hn := h.le
  have hp := h.ring.lt k
  obtain ⟨p, hq⟩ : ∃ p, p = (t + k) % n := ⟨_, rfl⟩
  have HA : Hid (∀ W : World, Dq W b o cs g n t rs l → CallsIn Fence.wide (3 - 1) Try.prog 88 #[.pointer (some ⟨b, o, none⟩), .int .i64 (k : Int)] W fun e w' => e = .returned (.int .i64 (p : Int)) ∧ ∃ m', w' = W.drewN m') := hide (fun W hW => by rw [hq]; exact at_wide _ hW k hk _)
  rw [← hq] at hp ⊢
  obtain ⟨x, hx⟩ : ∃ x, x = rs.getD p (0 : Int) := ⟨_, rfl⟩
  have h3 := h.at_ hp
  rw [← hx] at h3 ⊢
  have hf := h.row.frozen p
  have HD := hide h
  have hpn : (p : Int) < (n : Int) := by omega
  clear h hq hx hk
  refine (callsIn_wide (n := 3)).1 ?_
  refine callsIn_of_wp Try.func87 rfl trivial ?_ rfl
  simp only [Try.ntmps87, List.size_toArray, List.length_cons, List.length_nil, Nat.reduceAdd, Nat.reduceSub, Array.replicate_succ, Array.replicate_zero, List.push_toArray, List.append_toArray, List.nil_append, List.cons_append]
  gi_wp2
  refine wpIn_region_quiet_lit rfl (by kernel_rfl) (by kernel_rfl) ?_
  repeat (first | (gi_big_quiet_step (fail)) | (refine BigFrame.wpQuietIn_want (fun _ _ _ _ => trivial) rfl ?_; intro K hK; gi_big_quiet_op; gi_big_quiet_call ((gi_at_call 88; exact CallsIn.quiet_of (HA.out _ (HD.out.drewN _))))))
  refine wpQuietIn_nil ?_
  rintro _ ⟨nq, rfl⟩
  have HO := hide ((Only.refl (fun k => k = g) w).drewN nq)
  replace HD := hide (HD.out.drewN nq)
  replace hf := HD.out.row.frozen p
  clear h0 h1 h2 h3
  generalize w.drewN nq = W at *
  obtain ⟨h0, h1, h2⟩ := HD.out.cells
  have h3 := HD.out.at_ hp
  gi_wp2
  refine Round.wpIn_region_tail (F := Fence.wide) (Round.Grants.refl _ _ _) (by kernel_rfl) 9 rfl rfl (by kernel_rfl) (by kernel_rfl) (by kernel_rfl) (by kernel_rfl) (by kernel_rfl) (by kernel_rfl) ?_
  simp only [List.take, List.drop]
  repeat (first | (gi_big_quiet_step (fail)) | (refine BigFrame.wpQuietIn_want (fun _ _ _ _ => trivial) rfl ?_; intro K hK; gi_big_quiet_op; gi_big_quiet_call ((gi_at_call 88; exact CallsIn.quiet_of (HA.out _ (HD.out.drewN _))))))
  refine wpQuietIn_nil ?_
  rintro _ ⟨nq, rfl⟩
  gi_wp2
  have e : (Value.int .i64 (0 : Int)) = (Value.int .i64 0) := rfl
  refine bodyPost_ret (results_tmp rfl _ _ _) rfl ?_
  refine ⟨rfl, (HD.out.box.drewN _).other (p := ⟨g, p, none⟩) (Ne.symm HD.out.ne) _, ?_, ?_⟩
  · rw [← cells_set, e]
    exact (HD.out.row.drewN _).set p _
  · exact (HO.out.drewN _).setCell (p := ⟨g, p, none⟩) (.inl rfl) _
end
/-- How a deque lies: not at all, with no ring, with one. -/
inductive Sh where
  | nil
  | bare (b o : Nat) (cs : Array Value)
  | ring (b o : Nat) (cs : Array Value) (g n t : Nat) (rs : List Int)
def Sh.ptr : Sh → Value
  | .nil => .pointer none
  | .bare b o _ => .pointer (some ⟨b, o, none⟩)
  | .ring b o _ _ _ _ _ => .pointer (some ⟨b, o, none⟩)
/-- Its place: the block, where in it, and the block's cells (its own three counting for nothing). -/
def Sh.place : Sh → Option (Nat × Nat × Array Value)
  | .nil => none
  | .bare b o cs => some (b, o, cs)
  | .ring b o cs _ _ _ _ => some (b, o, cs)
def Sh.has : Sh → Nat → Prop
  | .nil, _ => False
  | .bare b _ _, k => k = b
  | .ring b _ _ g _ _ _, k => k = b ∨ k = g
def Sh.At : Sh → World → List Int → Prop
  | .nil, _, l => l = []
  | .bare b o cs, w, l => Is w b (put3 cs o (.slice none 0 0) (.int .i64 0) (.int .i64 0)) ∧ o + 3 ≤ cs.size ∧ l = []
  | .ring b o cs g n t rs, w, l => Dq w b o cs g n t rs l
section
variable {w w' : World} {s : Sh} {l : List Int}
theorem Sh.keep {S : Nat → Prop} (h : s.At w l) (ho : Only S w w') (hs : ∀ k, s.has k → ¬ S k) : s.At w' l := by
  cases s with
  | nil => exact h
  | bare b o cs => exact ⟨h.1.keep ho (hs b rfl), h.2⟩
  | ring b o cs g n t rs => exact Dq.keep h ho (hs b (.inl rfl)) (hs g (.inr rfl))
theorem Sh.below (h : s.At w l) (ho : Below w.heap.size w w') : s.At w' l := Sh.keep h (Only.of_below (S := fun _ => False) ho) (fun _ _ q => q)
theorem Sh.off (h : s.At w l) {row : Option Nat} (hg : w.grownBy w' row) (hr : ∀ r, row = some r → ∃ o : Obj, w.heap[r]? = some o ∧ o.isCells = false) : s.At w' l := by
  cases s with
  | nil => exact h
  | bare b o cs => exact ⟨is_off h.1 hg hr, h.2⟩
  | ring b o cs g n t rs => exact Dq.off h hg hr
theorem Sh.lt (h : s.At w l) : ∀ k, s.has k → k < w.heap.size := fun k hk => by
  cases s with
  | nil => exact hk.elim
  | bare b o cs => cases hk; exact h.1.lt
  | ring b o cs g n t rs =>
    rcases hk with rfl | rfl
    · exact (show Dq w k o cs g n t rs l from h).box.lt
    · exact (show Dq w b o cs k n t rs l from h).row.lt
theorem Sh.le (h : s.At w l) : l.length ≤ 1000000 := by
  cases s with
  | nil => have : l = [] := h; subst this; simp
  | bare b o cs => have : l = [] := h.2.2; subst this; simp
  | ring b o cs g n t rs =>
    have h1 := (show Dq w b o cs g n t rs l from h).ring.cnt
    have h2 := (show Dq w b o cs g n t rs l from h).le
    omega
theorem Sh.shape (s : Sh) : ∃ q, s.ptr = .pointer q := by
  cases s <;> exact ⟨_, rfl⟩
theorem Sh.ptr_of {b o : Nat} {cs : Array Value} (h : s.place = some (b, o, cs)) : s.ptr = .pointer (some ⟨b, o, none⟩) := by
  cases s <;> cases h <;> rfl
/-- Its three cells. -/
theorem Sh.box (h : s.At w l) {b o : Nat} {cs : Array Value} (hp : s.place = some (b, o, cs)) : s.has b ∧ o + 3 ≤ cs.size ∧ ∃ c0 c1, Is w b (put3 cs o c0 c1 (.int .i64 (l.length : Int))) := by
  cases s with
  | nil => cases hp
  | bare b' o' cs' =>
    cases hp
    obtain ⟨h1, h2, rfl⟩ := h
    exact ⟨rfl, h2, _, _, h1⟩
  | ring b' o' cs' g n t rs =>
    cases hp
    exact ⟨.inl rfl, Dq.fit h, _, _, Dq.box h⟩
theorem len_sh (h : s.At w l) : Calls Try.prog 70 #[s.ptr] w fun e w' => e = .returned (.int .i64 (l.length : Int)) ∧ w' = w := by
  cases s with
  | nil => have : l = [] := h; subst this; exact len_nil w
  | bare b o cs => obtain ⟨h1, h2, rfl⟩ := h; exact len_cell w (is3 h1 h2).2.2
  | ring b o cs g n t rs => exact len_cell w (Dq.cells h).2.2
end
end Go.Proofs.Ytkjdjmcecjaolaa.DqI

/- A range over a function whose elements hang on what the loop's body does between two of them: the function is told what the body keeps (I), and says of each element that it is the one that is due (Ok). -/
namespace Go.Proofs.Ytkjdjmcecjaolaa.Bit
open Go.RowKit Go.Proofs.Ytkjdjmcecjaolaa.Mem
set_option linter.unusedVariables false
set_option linter.unusedSimpArgs false

section
variable {F : Fence} {n : Nat} {P : Program}
/-- The function's word. -/
def Led (F : Fence) (n : Nat) (P : Program) (gf : Nat) (lb : Array Value) (encs : Int → Array Value) (I : List Int → World → Prop) (Ok : List Int → Int → Prop) (S Sp : List Int → Prop) : Prop :=
  ∀ (l : Nat) (J Jx : List Int → World → Prop) (W : World), (∀ pre W', J pre W' → I pre W') → AbidesFrom W.heap.size J → AbidesFrom W.heap.size Jx →
    (∀ pre x W', J pre W' → Ok pre x → YieldAt F (n - 1) P l (encs x) W' fun e V => (e = .returned (.bool true) ∧ J (pre ++ [x]) V) ∨ (e = .returned (.bool false) ∧ Jx (pre ++ [x]) V)) →
    J [] W → CallsIn F n P gf (#[.func (.yield l) #[] #[]] ++ lb) W fun e V => (∃ v, e = .returned v) ∧ ((∃ xs, S xs ∧ J xs V) ∨ (∃ pre, Sp pre ∧ Jx pre V))
/-- The loop's two blocks: for deferred calls, at B; its record, behind it. -/
structure Book (B : Nat) (r : Loop) (W : World) : Prop where
  defs : W.heap[B]? = some (.deferred (some []))
  loop : W.heap[B + 1]? = some (.loop r)
theorem Book.turn {B : Nat} {r r' : Loop} {W : World} (h : Book B r W) : Book B r' (W.putObj (B + 1) (.loop r')) :=
  ⟨(World.putObj_heap_other (by omega)).trans h.defs, World.putObj_heap_same (Array.getElem?_eq_some_iff.1 h.loop).1⟩
theorem Book.keep {B : Nat} {r : Loop} {W V : World} (h : Book B r W) (k : KeepsFrom B W V) : Book B r V := ⟨k.same _ _ (Nat.le_refl _) h.defs rfl, k.same _ _ (by omega) h.loop rfl⟩
theorem Book.walk {B : Nat} {r : Loop} {W V : World} {row : Option Nat} (h : Book B r W) (hg : W.grownBy V row) (hr : ∀ q, row = some q → ∃ o : Obj, W.heap[q]? = some o ∧ o.isWalk = true) : Book B r V :=
  ⟨(grownBy_keeps hg hr h.defs rfl).trans h.defs, (grownBy_keeps hg hr h.loop rfl).trans h.loop⟩
/-- How a round's body may be left. -/
def ledPost (B : Nat) (I : List Int → World → Prop) (Ix : Code → List Int → World → Prop) (xs : List Int) (W : World) : Exit → Act → World → Prop
  | .normal, _, V => KeepsFrom B W V ∧ I xs V
  | .ret, _, V => KeepsFrom B W V ∧ Ix .ret xs V
  | .exit id, _, V => KeepsFrom B W V ∧ Ix (.exit id) xs V
  | .goto t, _, V => KeepsFrom B W V ∧ Ix (.goto t) xs V
  | .panic _, _, _ => False
  | .outgrown, _, _ => False
theorem range_led {g : Operand} {ps : Array Tmp} {assign body : Code} {Q : Exit → Act → World → Prop} {a : Act} {w : World} (hro : F.round = none) (h1 : 1 ≤ n) {gf : Nat} {lb : Array Value} (hg : a.eval g = .func (.func gf) #[] lb) (hFg : F.fn gf) (eg : ∀ args w, (callFunc gf args).run P w = .ok (.enter gf args) w)
    {encs : Int → Array Value} (I : List Int → World → Prop) (Ix : Code → List Int → World → Prop) {Ok : List Int → Int → Prop} {S Sp : List Int → Prop} (hled : Led F (n - 1) P gf lb encs I Ok S Sp) (hps : ∀ x, (encs x).size = ps.size) (hI : OwnFrom w.heap.size I) (hIx : ∀ c, OwnFrom w.heap.size (Ix c)) (h0 : I [] w) (a₁ : Int → Act)
    (hassign : ∀ (l : Nat) (x : Int) (W : World) (K : Act → World → Prop), K (a₁ x) W → assign.wpIn (F.inRound l) (n - 1 - 1) P (Exit.then K (fun _ _ _ => False)) { tmps := (ps.zip (encs x)).foldl (fun t (p, v) => t.setIfInBounds p v) a.tmps, defers := [] } W)
    (hbody : ∀ (l : Nat) (pre : List Int) (x : Int) (W : World), I pre W → Ok pre x → body.wpIn (F.inRound l) (n - 1 - 1) P (ledPost w.heap.size I Ix (pre ++ [x]) W) (a₁ x) W)
    (hdone : ∀ (D : Nat) (xs : List Int) (W : World), w.heap.size ≤ D → S xs → I xs W → W.heap[D]? = some (.deferred (some [])) → Q .normal { a with defers := { target := .collected D, args := #[] } :: a.defers } W)
    (hstop : ∀ (D : Nat) (c : Code) (pre : List Int) (W : World), w.heap.size ≤ D → Sp pre → Ix c pre W → W.heap[D]? = some (.deferred (some [])) → c.wpIn F n P Q { a with defers := { target := .collected D, args := #[] } :: a.defers } W) :
    (Code.rangeFunc g ps assign body).wpIn F n P Q a w := by
  refine wpIn_rangeFunc fun fn hfn => ?_
  rw [hro]
  generalize hB : w.heap.size = B at *
  let R : LoopState → Option Code → Loop := fun st pe => { state := st, pending := pe, fn, tmps := a.tmps, params := ps, assign, body, defers := B }
  have book0 : Book B (R .ready none) ((w.alloc (.deferred (some []))).alloc (.loop (R .ready none))) := by
    refine ⟨?_, ?_⟩
    · have e := World.alloc_heap_new w (.deferred (some []))
      rw [hB] at e
      exact (Below.heap_alloc _ _ _ (by simp; omega)).trans e
    · have e := World.alloc_heap_new (w.alloc (.deferred (some []))) (.loop (R .ready none))
      rwa [World.size_alloc, hB] at e
  have I0 : I [] ((w.alloc (.deferred (some []))).alloc (.loop (R .ready none))) := hI.alloc _ (hI.alloc _ h0)
  have hsz : ((w.alloc (.deferred (some []))).alloc (.loop (R .ready none))).heap.size = B + 2 := by simp; omega
  have hent : (Instr.enterLoop fn a.tmps ps assign body none).run P w = .ok (B + 1, [{ target := .collected B, args := #[] }]) ((w.alloc (.deferred (some []))).alloc (.loop (R .ready none))) := by
    have := run_enterLoop_outer (P := P) (w := w) fn a.tmps ps assign body
    rwa [hB] at this
  generalize (w.alloc (.deferred (some []))).alloc (.loop (R .ready none)) = W1 at *
  have low : ∀ {A V : World} {row : Option Nat}, (∀ q, row = some q → W1.heap.size ≤ q ∧ ∃ o : Obj, A.heap[q]? = some o ∧ o.isWalk = true) → ∀ q, row = some q → B ≤ q ∧ ∃ o : Obj, A.heap[q]? = some o ∧ o.isCells = false := fun hr q e => by
    obtain ⟨h2, o, h3, h4⟩ := hr q e
    exact ⟨by omega, o, h3, Obj.not_cells_of_walk h4⟩
  refine ⟨B + 1, [{ target := .collected B, args := #[] }], W1, { target := .fn (.func gf) lb, args := #[.func (.yield (B + 1)) #[] #[]] }, W1, gf, #[.func (.yield (B + 1)) #[] #[]] ++ lb, W1, hent, ?_, ?_, ?_, fun _ => h1, ?_⟩
  · simp only [resolve, hg]
    simp [go_sem]
  · intro f' hf'
    simp [Target.leads] at hf'
    subst hf'
    exact hFg
  · simp [invoke, go_sem, eg]
  refine (hled (B + 1) (fun pre W => I pre W ∧ Book B (R .ready none) W) (fun pre W => ∃ c, Ix c pre W ∧ Book B (R .done (some c)) W) W1 (fun _ _ h => h.1)
    (fun s A V row hs hgr hr => ⟨hI s A V row hs.1 hgr (low (V := V) hr), hs.2.walk hgr (fun q e => (hr q e).2)⟩)
    (fun s A V row hs hgr hr => let ⟨c, q1, q2⟩ := hs; ⟨c, hIx c s A V row q1 hgr (low (V := V) hr), q2.walk hgr (fun q e => (hr q e).2)⟩) ?_ ⟨I0, book0⟩).mono ?_
  · rintro pre x W ⟨hi, hbk⟩ hok
    have hy := run_yield (P := P) (args := encs x) hbk.loop (hps x)
    refine ⟨fn, _, assign, body, hy, roundIn_of_wpIn hfn (hassign _ x W _ ⟨_, run_beginRound hbk.loop rfl, ?_⟩)⟩
    have hbusy : Book B { R .ready none with state := .busy } (W.putObj (B + 1) (.loop { R .ready none with state := .busy })) := hbk.turn
    refine wpIn_mono (hbody _ pre x _ (hI.putObj _ hi (by omega) hbk.loop rfl) hok) ?_
    rintro e a3 V hp
    cases e with
    | normal =>
      have b3 := hbusy.keep hp.1
      exact ⟨_, _, run_endRound (P := P) none b3.loop, .inl ⟨rfl, hI.putObj _ hp.2 (by omega) b3.loop rfl, b3.turn⟩⟩
    | ret =>
      have b3 := hbusy.keep hp.1
      exact ⟨_, _, run_endRound (P := P) (some .ret) b3.loop, .inr ⟨rfl, .ret, (hIx _).putObj _ hp.2 (by omega) b3.loop rfl, b3.turn⟩⟩
    | exit id =>
      have b3 := hbusy.keep hp.1
      exact ⟨_, _, run_endRound (P := P) (some (.exit id)) b3.loop, .inr ⟨rfl, .exit id, (hIx _).putObj _ hp.2 (by omega) b3.loop rfl, b3.turn⟩⟩
    | goto t =>
      have b3 := hbusy.keep hp.1
      exact ⟨_, _, run_endRound (P := P) (some (.goto t)) b3.loop, .inr ⟨rfl, .goto t, (hIx _).putObj _ hp.2 (by omega) b3.loop rfl, b3.turn⟩⟩
    | panic ch => exact hp.elim
    | outgrown => exact hp.elim
  · rintro e V ⟨⟨v, rfl⟩, (⟨xs, hS, hi, hbk⟩ | ⟨pre, hSp, c, hi, hbk⟩)⟩
    · exact ⟨none, _, run_endLoop (P := P) hbk.loop (by simp [R]), hdone B xs _ (Nat.le_refl _) hS (hI.putObj _ hi (by omega) hbk.loop rfl) ((World.putObj_heap_other (by omega)).trans hbk.defs)⟩
    · exact ⟨some c, _, run_endLoop (P := P) hbk.loop (by simp [R]), hstop B c pre _ (Nat.le_refl _) hSp ((hIx c).putObj _ hi (by omega) hbk.loop rfl) ((World.putObj_heap_other (by omega)).trans hbk.defs)⟩
end
end Go.Proofs.Ytkjdjmcecjaolaa.Bit

/- All of a deque is gone through: the function that each hands back. -/
namespace Go.Proofs.Ytkjdjmcecjaolaa.DqI
open Go.RowKit Go.Proofs.Ytkjdjmcecjaolaa.Dig Go.Proofs.Ytkjdjmcecjaolaa.Mem Go.Proofs.Ytkjdjmcecjaolaa.Dq Go.Proofs.Ytkjdjmcecjaolaa.Bit Go.Shelf
set_option linter.unusedVariables false
set_option linter.unusedSimpArgs false
attribute [local go_sem] Oper.semAt_some

theorem each_any (q : Option Addr) (w : World) :
    Calls Try.prog 97 #[.pointer q] w fun e w' => e = .returned (.func (.func 99) #[] #[.pointer (some ⟨w.heap.size, 0, none⟩)]) ∧ w' = w.alloc (.cells #[.pointer q] 130) := by
  go_enter Try.func97, Try.ntmps97
  go_wp2
  go_ret
  exact ⟨rfl, rfl⟩
def encE (l : List Int) (x : Int) : Array Value := #[.int .i64 x, (Value.int .i64 (l.getD x.toNat (0 : Int)))]
def DueE (l : List Int) (pre : List Int) (x : Int) : Prop := ∃ k : Nat, x = (k : Int) ∧ k < l.length ∧ pre = upTo k
set_option maxRecDepth 100000 in
set_option maxHeartbeats 2000000 in
theorem eachc_none (B : Nat) (s : Sh) (I : List Int → World → Prop) (hI : ∀ pre W, I pre W → W.cell? ⟨B, 0, none⟩ = some s.ptr ∧ s.At W []) :
    Led Fence.wide 2 Try.prog 99 #[.pointer (some ⟨B, 0, none⟩)] (encE []) I (DueE []) (fun xs => xs = upTo ([] : List Int).length) (fun _ => True) := fun f J Jx W hJI hJ hJx hY h0 => by
  refine callsIn_of_wp Try.func99 rfl trivial ?_ rfl
  simp only [Try.ntmps99, List.size_toArray, List.length_cons, List.length_nil, Nat.reduceAdd, Nat.reduceSub, Array.replicate_succ, Array.replicate_zero, List.push_toArray, List.append_toArray, List.nil_append, List.cons_append]
  obtain ⟨k1, k2⟩ := hI _ _ (hJI _ _ h0)
  have HL := hide (len_sh k2)
  obtain ⟨q, hq⟩ := s.shape
  rw [hq] at k1 HL
  simp only [List.length_nil, Int.natCast_zero, Int.ofNat_zero, Int.cast_ofNat_Int] at HL
  clear hI k2 hJI hY
  gi_wp2_with (refine ⟨trivial, ?_⟩; gi_at_call 70; go_must ((with_reducible refine (callsIn_wide.2 (Hid.out HL)).mono ?_); rintro e w1 ⟨rfl, rfl⟩))
  gi_loopw [6] (fun i wr => i = .int .i64 0 ∧ J [] wr) (fun _ _ => 0)
  case atStart => exact ⟨rfl, h0⟩
  case round =>
    obtain ⟨rfl, hJs⟩ := hrel
    gi_wp2
    go_end0
    exact ⟨⟨_, rfl⟩, .inl ⟨_, rfl, hJs⟩⟩
set_option maxRecDepth 100000 in
set_option maxHeartbeats 2000000 in
theorem eachc_ring (B b o g n t : Nat) (cs : Array Value) (rs l : List Int) (I : List Int → World → Prop) (hI : ∀ pre W, I pre W → W.cell? ⟨B, 0, none⟩ = some (.pointer (some ⟨b, o, none⟩)) ∧ Dq W b o cs g n t rs l) :
    Led Fence.wide 2 Try.prog 99 #[.pointer (some ⟨B, 0, none⟩)] (encE l) I (DueE l) (fun xs => xs = upTo l.length) (fun _ => True) := fun f J Jx W hJI hJ hJx hY h0 => by
  refine callsIn_of_wp Try.func99 rfl trivial ?_ rfl
  simp only [Try.ntmps99, List.size_toArray, List.length_cons, List.length_nil, Nat.reduceAdd, Nat.reduceSub, Array.replicate_succ, Array.replicate_zero, List.push_toArray, List.append_toArray, List.nil_append, List.cons_append]
  have HI := hide (fun pre W h => hI pre W (hJI pre W h))
  obtain ⟨k1, k2⟩ := HI.out _ _ h0
  obtain ⟨m, hm⟩ : ∃ m, m = l.length := ⟨_, rfl⟩
  have hmn : m ≤ 1000000 := by have := k2.ring.cnt; have := k2.le; omega
  have HL := hide (len_cell (b := b) (o := o) (k := (m : Int)) W (by rw [hm]; exact k2.cells.2.2))
  have HM := hide hm
  clear hI k2 hm hJI
  gi_wp2_with (refine ⟨trivial, ?_⟩; gi_at_call 70; go_must ((with_reducible refine (callsIn_wide.2 (Hid.out HL)).mono ?_); rintro e w1 ⟨rfl, rfl⟩))
  clear HL k1
  gi_loopw [6] (fun i wr => ∃ k : Nat, k ≤ m ∧ i = .int .i64 k ∧ J (upTo k) wr) (fun i _ => m - (intOf i).toNat)
  case atStart => exact ⟨0, Nat.zero_le _, rfl, h0⟩
  case round =>
    obtain ⟨k, hk, rfl, hJs⟩ := hrel
    obtain ⟨k1, k2⟩ := HI.out _ _ hJs
    by_cases hlt : k < m
    · have hcnt := k2.ring.cnt
      rw [← HM.out] at hcnt
      have hnl := k2.le
      have hpn := k2.ring.lt k
      have HA := hide (fun q : Nat => at_wide _ (k2.drewN q) k (by omega) 1)
      have k3 := k2.cells.1
      have hv := k2.ring.at_ k (by rw [← HM.out]; exact hlt)
      have k4 := k2.at_ hpn
      obtain ⟨p, hp⟩ : ∃ p, p = (t + k) % n := ⟨_, rfl⟩
      obtain ⟨x, hx⟩ : ∃ x, x = l.getD k (0 : Int) := ⟨_, rfl⟩
      rw [← hp, ← hx] at hv
      rw [← hp] at hpn k4 HA
      rw [hv] at k4
      have hpi : (p : Int) < n := by omega
      have hy : ∀ q : Nat, ∃ fn tmps assign body, _ := fun q => hY _ (k : Int) (wr.drewN q) (abides hJ hJs (below_of_drewN q)) ⟨k, rfl, by rw [← HM.out]; exact hlt, rfl⟩
      simp only [encE, Int.toNat_natCast] at hy
      rw [← hx] at hy
      have HY := hide hy
      have hli : (k : Int) < m := by omega
      clear hv hp hx k2 hJs hy hcnt
      gi_wp2
      refine Round.wpIn_region_tail (F := Fence.wide) (Round.Grants.refl _ _ _) (by kernel_rfl) 11 rfl rfl (by kernel_rfl) (by kernel_rfl) (by kernel_rfl) (by kernel_rfl) (by kernel_rfl) (by kernel_rfl) ?_
      simp only [List.take, List.drop]
      repeat (first | (gi_big_quiet_step (fail)) | (refine BigFrame.wpQuietIn_want (fun _ _ _ _ => trivial) rfl ?_; intro K hK; gi_big_quiet_op; gi_big_quiet_call ((gi_at_call 88; exact CallsIn.quiet_of (HA.out _)))))
      refine wpQuietIn_nil ?_
      rintro _ ⟨nq, rfl⟩
      obtain ⟨fn, tmps, assign, body, hy, hR⟩ := HY.out nq
      gi_wp2
      refine hR.mono ?_
      rintro e W3 (⟨rfl, hJ3⟩ | ⟨rfl, hJx3⟩)
      · gi_wp2
        go_roundw
        case rel => exact ⟨k + 1, by omega, by simp, by rw [upTo_succ]; exact hJ3⟩
        case measure => simp [intOf]; omega
      · gi_wp2
        refine bodyPost_ret (results_none rfl _ _ _) rfl ?_
        exact ⟨⟨_, rfl⟩, .inr ⟨_, trivial, hJx3⟩⟩
    · obtain rfl : k = m := by omega
      have hli : ¬ (k : Int) < k := by omega
      rw [HM.out] at hJs
      clear k2 k1
      gi_wp2
      go_end0
      exact ⟨⟨_, rfl⟩, .inl hJs⟩
/-- The function that each hands back, over a deque that stays as it is. -/
theorem eachc_led (B : Nat) (s : Sh) (l : List Int) (I : List Int → World → Prop) {W0 : World} (h0 : s.At W0 l) (hI : ∀ pre W, I pre W → W.cell? ⟨B, 0, none⟩ = some s.ptr ∧ s.At W l) :
    Led Fence.wide 2 Try.prog 99 #[.pointer (some ⟨B, 0, none⟩)] (encE l) I (DueE l) (fun xs => xs = upTo l.length) (fun _ => True) := by
  cases s with
  | nil =>
    have e : l = [] := h0
    subst e
    exact eachc_none B .nil I hI
  | bare b o cs =>
    have e : l = [] := h0.2.2
    subst e
    exact eachc_none B (.bare b o cs) I hI
  | ring b o cs g n t rs => exact eachc_ring B b o g n t cs rs l I hI
end Go.Proofs.Ytkjdjmcecjaolaa.DqI

/- A deque's ring gets another room. -/
namespace Go.Proofs.Ytkjdjmcecjaolaa.DqI
open Go.RowKit Go.Proofs.Ytkjdjmcecjaolaa.Dig Go.Proofs.Ytkjdjmcecjaolaa.Mem Go.Proofs.Ytkjdjmcecjaolaa.Dq Go.Proofs.Ytkjdjmcecjaolaa.Bit Go.Shelf
set_option linter.unusedVariables false
set_option linter.unusedSimpArgs false
attribute [local go_sem] Oper.semAt_some

theorem Try.infoEl : (Try.prog.info? 3).map (fun i => (i.zero, i.size, i.bytes)) = some (some (Value.int .i64 0), 1, 8) := by kernel_rfl
theorem madeCells_el (n : Nat) : madeCells ((Value.int .i64 0)).cells n = cellsOf (List.replicate n (0 : Int)) := by
  rw [show ((Value.int .i64 0)).cells = #[(Value.int .i64 0)] from rfl]
  apply Array.ext
  · simp [madeCells, cellsOf]
  · intro i h1 h2
    simp [madeCells, cellsOf, Nat.mod_one]
theorem mk_els (n c : Nat) (hn : n ≤ c) (hc : c ≤ 1000000) : ∀ w : World, (Instr.makeSlice 23 (.int .i64 (n : Int)) (.int .i64 (c : Int))).run Try.prog w = .ok (.slice (some ⟨w.heap.size, 0, none⟩) n c) (w.alloc (.cells (cellsOf (List.replicate c (0 : Int))) 3)) := by
  intro w
  obtain ⟨i0, hi, hz0, hz1, hz2⟩ := info_parts Try.infoEl
  have hr := run_makeSlice (P := Try.prog) w 23 3 i0 (Value.int .i64 0) Try.underlying23 hi hz0 .i64 .i64 (n : Int) (c : Int) (by omega) (by omega) (by rw [hz1]; simp; omega) (by rw [hz2]; omega) (by omega)
  simp only [Int.toNat_natCast] at hr
  rw [hz1, Nat.mul_one, madeCells_el] at hr
  exact hr
/-- What the loop keeps: the deque, the boxes of the pointer and of the new ring's slice, and the new ring, filled so far. -/
def SizeR (w : World) (s : Sh) (l : List Int) (m : Nat) (pre : List Int) (W : World) : Prop :=
  s.At W l ∧ Fo (fun _ => False) w [(w.heap.size, cellsOf (laid (0 : Int) m l pre.length)), (w.heap.size + 1, #[.slice (some ⟨w.heap.size, 0, none⟩) m m]), (w.heap.size + 1 + 1, #[s.ptr])] W
set_option maxRecDepth 100000 in
set_option maxHeartbeats 2000000 in
theorem resize_sh {w : World} {s : Sh} {l : List Int} (h : s.At w l) {b o : Nat} {cs : Array Value} (hpl : s.place = some (b, o, cs)) (m : Nat) (hl : l.length ≤ m) (h0 : 0 < m) (hm : m ≤ 1000000) :
    Calls Try.prog 90 #[.pointer (some ⟨b, o, none⟩), .int .i64 (m : Int)] w fun e w' => e = .returned (.tuple #[]) ∧ Dq w' b o cs w.heap.size m 0 (laid (0 : Int) m l l.length) l ∧ Only (fun k => k = b) w w' := by
  have hmk := mk_els m m (Nat.le_refl _) hm
  have HS := hide h
  have HP := hide (Sh.ptr_of hpl)
  have HPL := hide hpl
  refine (callsIn_wide (n := 3)).1 ?_
  refine callsIn_of_wp_marks Try.func90 rfl trivial ?_ rfl
  simp only [Try.ntmps90, List.size_toArray, List.length_cons, List.length_nil, Nat.reduceAdd, Nat.reduceSub, Array.replicate_succ, Array.replicate_zero, List.push_toArray, List.append_toArray, List.nil_append, List.cons_append]
  clear h hpl
  gi_wp2_with (refine ⟨trivial, ?_⟩; gi_at_call 97; go_must ((with_reducible refine (callsIn_wide.2 (each_any _ _)).mono ?_); rintro e w9 ⟨rfl, rfl⟩))
  obtain ⟨W0, hW0⟩ : ∃ W0, W0 = ((w.alloc (.cells (cellsOf (List.replicate m (0 : Int))) 3)).alloc (.cells #[.slice (some ⟨w.heap.size, 0, none⟩) m m] 23)).alloc (.cells #[.pointer (some ⟨b, o, none⟩)] 130) := ⟨_, rfl⟩
  have hsz : W0.heap.size = w.heap.size + 3 := by rw [hW0]; simp
  have F0 : Fo (fun _ => False) w [(w.heap.size, cellsOf (laid (0 : Int) m l ([] : List Int).length)), (w.heap.size + 1, #[.slice (some ⟨w.heap.size, 0, none⟩) m m]), (w.heap.size + 1 + 1, #[s.ptr])] W0 := by
    rw [hW0, HP.out]
    refine Fo.sub ((((Fo.start (fun _ => False) w).push (cellsOf (List.replicate m (0 : Int))) 3 (b := w.heap.size) rfl).push #[.slice (some ⟨w.heap.size, 0, none⟩) m m] 23 (b := w.heap.size + 1) (by simp)).push #[.pointer (some ⟨b, o, none⟩)] 130 (b := w.heap.size + 1 + 1) (by simp)) (fun r hr => ?_)
    simp only [List.length_nil, laid_zero, List.mem_cons, List.not_mem_nil, or_false] at hr ⊢
    rcases hr with rfl | rfl | rfl <;> simp
  have S0 : s.At W0 l := Sh.keep HS.out F0.only (fun _ _ q => q)
  rw [← hW0]
  clear hW0 hmk
  have hst := eachc_led (w.heap.size + 1 + 1) s l (SizeR w s l m) HS.out (fun pre W hR => ⟨(hR.2.one (b := w.heap.size + 1 + 1) (v := s.ptr) (by simp)).1, hR.1⟩)
  refine range_led (n := 3) rfl (by omega) rfl trivial (enters_of Try.func99 (by kernel_rfl) rfl) _ (fun _ _ _ => False) hst (fun _ => rfl) ?hI (fun _ _ _ _ _ hs _ _ => hs.elim) ⟨S0, F0⟩
    (fun x => { tmps := #[.pointer (some ⟨b, o, none⟩), .int .i64 (m : Int), undef, undef, .pointer (some ⟨w.heap.size + 1, 0, none⟩), .int .i64 x, (Value.int .i64 (l.getD x.toNat (0 : Int))), .int .i64 (m : Int), .slice (some ⟨w.heap.size, 0, none⟩) m m, .pointer (some ⟨b, o, none⟩), .func (.func 99) #[] #[.pointer (some ⟨w.heap.size + 1 + 1, 0, none⟩)], .int .i64 x, (Value.int .i64 (l.getD x.toNat (0 : Int))), undef, undef, undef, undef, undef, undef, undef, undef, undef, undef, undef], defers := [] }) ?assign ?body ?done ?stop
  case hI =>
    rintro pre A V row ⟨hk, hF⟩ hg hr
    exact ⟨Sh.off hk hg (fun r e => (hr r e).2), hF.off (by omega) hg hr⟩
  case assign =>
    intro f x W K hK
    simp only [encE]
    gi_wp2
    exact hK
  case body =>
    rintro f pre x W ⟨hk, hF⟩ ⟨k, rfl, hlt, rfl⟩
    simp only [Int.toNat_natCast]
    have hkm : k < m := by omega
    have hc := hF.cell (b := w.heap.size) (c := cellsOf (laid (0 : Int) m l (upTo k).length)) (by simp) k (cells_at (by rw [upTo_length, laid_length hl (by omega)]; exact hkm))
    have hb := hF.one (b := w.heap.size + 1) (v := .slice (some ⟨w.heap.size, 0, none⟩) m m) (by simp)
    obtain ⟨c1, c2⟩ := hc
    obtain ⟨b1, b2⟩ := hb
    have HE : Hid ((cellsOf (laid (0 : Int) m l (upTo k).length)).setIfInBounds k (Value.int .i64 (l.getD k (0 : Int))) = cellsOf (laid (0 : Int) m l (upTo k ++ [(k : Int)]).length)) := hide (by rw [cells_set, upTo_length, laid_set hl hlt, List.length_append, upTo_length]; rfl)
    have HK := hide hk
    have HF := hide hF
    have HLT := hide hlt
    obtain ⟨x, hx⟩ : ∃ x, x = l.getD k (0 : Int) := ⟨_, rfl⟩
    rw [← hx] at HE ⊢
    have hkmi : (k : Int) < m := by omega
    clear hk hF hx hlt
    gi_wp2
    refine ⟨(KeepsOthers.setCell W _ _).from _, Sh.keep (S := fun j => j = w.heap.size) HK.out ((Only.refl _ _).put k _) (fun j hj e => by have := Sh.lt HS.out j hj; omega), ?_⟩
    rw [← HE.out]
    exact HF.out.set (.inr (Nat.le_refl _)) (fun r hr => by
      simp only [List.mem_cons, List.not_mem_nil, or_false] at hr
      rcases hr with rfl | rfl <;> simp <;> omega)
  case done =>
    rintro D xs W hD rfl ⟨hz, hF⟩ hK
    obtain ⟨q1, qf, c0, c1, q2⟩ := Sh.box hz HPL.out
    have hb1 := hF.one (b := w.heap.size + 1) (v := .slice (some ⟨w.heap.size, 0, none⟩) m m) (by simp)
    have hlb := Sh.lt HS.out b q1
    obtain ⟨b1, b2⟩ := hb1
    obtain ⟨d0, d1, _⟩ := is3 q2 qf
    have f0 := q2.frozen o
    have f1 := q2.frozen (o + 1)
    have HB := hide q2
    have HF := hide hF
    have HK := hide hK
    have HDb : Hid (D ≠ b) := hide (fun e => by omega)
    clear hz hF q2 q1 hK
    gi_wp2
    have O2 : Only (fun k => k = b) W ((W.setCell ⟨b, o, none⟩ (.slice (some ⟨w.heap.size, 0, none⟩) m m)).setCell ⟨b, o + 1, none⟩ (.int .i64 0)) := ((Only.refl _ _).put o _).put (o + 1) _
    have hK2 := (O2.block D (Array.getElem?_eq_some_iff.1 HK.out).1 HDb.out).trans HK.out
    have hB2 := is3_set1 (is3_set0 HB.out (.slice (some ⟨w.heap.size, 0, none⟩) m m)) (.int .i64 0)
    have hR2 := (HF.out.boxes (w.heap.size, cellsOf (laid (0 : Int) m l (upTo l.length).length)) (by simp)).keep O2 (by show ¬ w.heap.size = b; omega)
    rw [upTo_length] at hR2
    generalize (W.setCell ⟨b, o, none⟩ (.slice (some ⟨w.heap.size, 0, none⟩) m m)).setCell ⟨b, o + 1, none⟩ (.int .i64 0) = W2 at *
    have hg := grownBy_putObj' W2 D (.deferred none)
    have hr : ∀ r, some D = some r → W0.heap.size ≤ r ∧ ∃ o : Obj, W2.heap[r]? = some o ∧ o.isCells = false := fun r e => by cases e; exact ⟨hD, _, hK2, rfl⟩
    refine ⟨by simp, .inl ⟨_, _, rfl, run_takeDeferred hK2, ?_⟩⟩
    refine ⟨_, results_none rfl _ _ _, rfl, ⟨is_off hB2 hg (fun r e => (hr r e).2), qf, is_off hR2 hg (fun r e => (hr r e).2), by omega, Ring.laid hl h0, hm⟩, ?_⟩
    exact only_off ((HF.out.only.mono (fun _ q => q.elim)).trans O2) (by omega) hg hr
  case stop =>
    rintro D cc pre W hD _ h _
    exact h.elim
end Go.Proofs.Ytkjdjmcecjaolaa.DqI
