/- A region whose operations read alone up to a place, and come up one by one, in the text's order, from there on (each waits for all ahead of it): one walk in the text's order serves every order. -/
import Derived.Test.YthajooipaiiieaaRoundQuiet
import Derived.WalkKit
namespace Go.Proofs.Ythajooipaiiieaa.Round
open Go Go.RowKit
set_option linter.unusedVariables false
set_option linter.unusedSimpArgs false

section
variable {F F' : Fence} {n : Nat} {P : Program} {ops ops' : Array Oper} {md : Region.Mode} {C : World → Prop}
/-- What holds within the one fence holds within the other. -/
structure Grants (F F' : Fence) (n : Nat) (P : Program) : Prop where
  fn : F'.fn = F.fn
  depth : F'.depth = F.depth
  calls : ∀ {f : Nat} {args : Array Value} {w : World} {Post : Ending → World → Prop}, CallsIn F (n - 1) P f args w Post → CallsIn F' (n - 1) P f args w Post
theorem Grants.refl (F : Fence) (n : Nat) (P : Program) : Grants F F n P := ⟨rfl, rfl, fun h => h⟩
theorem Grants.round (F : Fence) (n : Nat) (P : Program) (l : Nat) : Grants F (F.inRound l) n P := ⟨rfl, rfl, fun h => CallsIn.inRound l h⟩
def plainB (ops : Array Oper) : Bool := ops.all fun o => o.guard.isNone
theorem plainB_spec (h : plainB ops = true) {i : Nat} {o : Oper} (ho : ops[i]? = some o) : o.guard = none := by
  have := Array.all_eq_true_iff_forall_mem.1 h o (Array.mem_of_getElem? ho)
  simpa using this
theorem wanted_plain {o : Oper} (h : o.guard = none) (y : Nat → Option Bool) : Region.wanted o y = true := by simp [Region.wanted, h]
theorem wpIn_of_quiet_tail (hG : Grants F F' n P) {o : Oper} {a : Act} {K : Act → Prop} {K' : Act → World → Prop} {Q' : Exit → Act → World → Prop} {w : World} (hnd : ∀ c, o.op ≠ .defer c) (hw : C w) (h : ∀ a w', C w' → K a → K' a w')
    (ha : o.askedIn F P a C) (hh : o.quietIn F n P a C K) : o.wpIn F' n P a w K' Q' := by
  obtain ⟨v, h1, h2⟩ := hh
  have h3 := h1 w hw
  unfold Oper.quietAtIn at h3
  unfold Oper.wpIn
  refine ⟨by rw [hG.fn]; exact ha w hw, ?_⟩
  rw [Oper.semAt_eq _ _ _ hnd]
  generalize (execOp a.eval o).run P w = r at *
  cases r with
  | ok x w' =>
    cases x <;> simp only [Oper.quietUponIn] at h3 <;> simp only [Oper.uponIn]
    case value u =>
      obtain ⟨e1, e2⟩ := h3
      rw [e1, e2]
      exact h _ _ hw h2
    case skip =>
      obtain ⟨e1, e2⟩ := h3
      rw [e1, ← e2]
      exact h _ _ hw h2
    case enter f args =>
      obtain ⟨e1, hd, hc⟩ := h3
      rw [e1]
      exact ⟨by rw [hG.depth]; exact hd, (hG.calls hc).mono fun e w'' ⟨he, hw''⟩ => by subst he; exact h _ _ hw'' h2⟩
  | halt x w' => simp only [Oper.quietUponIn] at h3
theorem wpOpIn_of_qOpIn_tail (hG : Grants F F' n P) {i : Nat} {a : Act} {K : Act → Prop} {K' : Act → World → Prop} {Q' : Exit → Act → World → Prop} {w : World} (hnd : noDefer ops = true) (hp : plainB ops = true) (hi : ops'[i]? = ops[i]?) (hC : C w) (h : ∀ a w', C w' → K a → K' a w')
    (hh : qOpIn F n P ops' C i K a) : wpOpIn F' n P ops Q' i K' a w := by
  unfold qOpIn at hh
  unfold wpOpIn
  rw [hi] at hh
  split
  · rename_i ho; simp only [ho] at hh; exact h _ _ hC hh
  · rename_i o ho
    simp only [ho] at hh
    obtain ⟨ha, hh⟩ := hh
    have hg := plainB_spec hp ho
    rw [if_pos (wanted_plain hg _)] at hh ⊢
    exact wpIn_of_quiet_tail hG (noDefer_spec hnd ho) hC h ha hh
/-- Number i waits for number j, maybe by others. -/
def anc (md : Region.Mode) (ops : Array Oper) : Nat → Nat → Nat → Bool
  | 0, _, _ => false
  | f + 1, i, j => match ops[i]? with
    | some o => o.after.any fun e => Region.binds md e && (e.on == j || anc md ops f e.on j)
    | none => false
/-- Each from k on waits for all ahead of it. -/
def tailB (md : Region.Mode) (ops : Array Oper) (k : Nat) : Bool := (List.range ops.size).all fun i => decide (i < k) || (List.range i).all fun j => anc md ops ops.size i j
/-- What has come up waits for nothing that hasn't. -/
def Shut (md : Region.Mode) (ops : Array Oper) (listed : Array Bool) : Prop := ∀ i o, ops[i]? = some o → listed.getD i false = true → ∀ e ∈ o.after, Region.binds md e = true → listed.getD e.on false = true
theorem anc_shut {listed : Array Bool} (hs : Shut md ops listed) : ∀ (f i j : Nat), listed.getD i false = true → anc md ops f i j = true → listed.getD j false = true
  | 0, _, _, _, h => by cases h
  | f + 1, i, j, hi, h => by
    unfold anc at h
    split at h
    · rename_i o ho
      obtain ⟨q, hqs, hq⟩ := Array.any_eq_true.1 h
      rw [Bool.and_eq_true, Bool.or_eq_true, beq_iff_eq] at hq
      have h2 := hs i o ho hi _ (Array.getElem_mem hqs) hq.1
      rcases hq.2 with e | e
      · rw [← e]; exact h2
      · exact anc_shut hs f _ j h2 e
    · cases h
theorem anc_ready {listed : Array Bool} (hs : Shut md ops listed) {f i j : Nat} (hi : i ∈ Region.ready md ops listed) (h : anc md ops f i j = true) : listed.getD j false = true := by
  obtain ⟨_, o, ho, h2⟩ := mem_ready.1 hi
  cases f with
  | zero => cases h
  | succ f =>
    unfold anc at h
    rw [ho] at h
    obtain ⟨q, hqs, hq⟩ := Array.any_eq_true.1 h
    rw [Bool.and_eq_true, Bool.or_eq_true, beq_iff_eq] at hq
    have h3 := h2 _ (Array.getElem_mem hqs) hq.1
    rcases hq.2 with e | e
    · rw [← e]; exact h3
    · exact anc_shut hs f _ j h3 e
theorem Shut.next {listed : Array Bool} (hs : Shut md ops listed) (hz : listed.size = ops.size) {i : Nat} (hi : i ∈ Region.ready md ops listed) : Shut md ops (listed.setIfInBounds i true) := fun j o ho hj e he hb => by
  have hlt : i < listed.size := by
    obtain ⟨_, o2, ho2, _⟩ := mem_ready.1 hi
    have := (Array.getElem?_eq_some_iff.1 ho2).1
    omega
  have key : listed.getD e.on false = true → (listed.setIfInBounds i true).getD e.on false = true := fun h => by
    by_cases q : i = e.on
    · rw [← q]; exact getD_set_same false hlt
    · have hlt2 : e.on < listed.size := by
        apply Nat.lt_of_not_le
        intro r
        simp [Array.getD, show ¬ e.on < listed.size by omega] at h
      rw [listed_default (by simpa using hlt2) false true, getD_set_ne true q, listed_default hlt2 true false]
      exact h
  by_cases q : i = j
  · subst q
    obtain ⟨_, o2, ho2, h2⟩ := mem_ready.1 hi
    rw [ho] at ho2
    obtain rfl := Option.some.inj ho2
    exact key (h2 e he hb)
  · have hjs : j < listed.size := by have := (Array.getElem?_eq_some_iff.1 ho).1; omega
    rw [listed_default (by simpa using hjs) false true, getD_set_ne true q, listed_default hjs true false] at hj
    exact key (hs j o ho hj e he hb)
/-- One of those may come up only behind all ahead of it. -/
theorem tail_ready {k : Nat} (h : tailB md ops k = true) {listed : Array Bool} (hsh : Shut md ops listed) (hs : listed.size = ops.size) {i : Nat} (hi : i ∈ Region.ready md ops listed) (hk : k ≤ i) : ∀ j, j < i → listed.getD j true = true := fun j hj => by
  obtain ⟨_, o, ho, h2⟩ := mem_ready.1 hi
  have hlt : i < ops.size := (Array.getElem?_eq_some_iff.1 ho).1
  unfold tailB at h
  have h1 := List.all_eq_true.1 h i (List.mem_range.2 hlt)
  rw [decide_eq_false (by omega), Bool.false_or] at h1
  have h3 := List.all_eq_true.1 h1 j (List.mem_range.2 hj)
  rw [listed_default (by omega) true false]
  exact anc_ready hsh hi h3
/-- The first j have come up, no other one has. -/
structure Upto (ops : Array Oper) (listed : Array Bool) (j : Nat) : Prop where
  size : listed.size = ops.size
  yes : ∀ i, i < j → listed.getD i true = true
  no : ∀ i, j ≤ i → i < ops.size → listed.getD i true = false
theorem Upto.next {listed : Array Bool} {j : Nat} (h : Upto ops listed j) (hj : j < ops.size) : Upto ops (listed.setIfInBounds j true) (j + 1) :=
  ⟨by simp [h.size], fun i hi => by
    by_cases e : i = j
    · subst e; exact getD_set_same true (by have := h.size; omega)
    · rw [getD_set_ne true (Ne.symm e)]; exact h.yes i (by omega), fun i hi hs => by
    rw [getD_set_ne true (by omega)]; exact h.no i (by omega) hs⟩
theorem Upto.over {listed : Array Bool} (h : Upto ops listed ops.size) : Region.ready md ops listed = [] := by
  rw [List.eq_nil_iff_forall_not_mem]
  intro j hj
  obtain ⟨h2, o2, ho2, _⟩ := mem_ready.1 hj
  have hjs : j < ops.size := (Array.getElem?_eq_some_iff.1 ho2).1
  rw [h.yes j hjs] at h2
  cases h2
theorem Upto.shut {listed : Array Bool} {j : Nat} (hb : backB ops = true) (h : Upto ops listed j) : Shut md ops listed := fun i o ho hi e he _ => by
  have hlt : i < ops.size := (Array.getElem?_eq_some_iff.1 ho).1
  have hij : i < j := by
    apply Nat.lt_of_not_le
    intro q
    have := h.no i q hlt
    rw [listed_default (by have := h.size; omega) true false, hi] at this
    cases this
  have hel := backB_spec hb ho he
  have := h.yes e.on (by omega)
  rw [listed_default (by have := h.size; omega) true false] at this
  exact this
theorem Upto.one {listed : Array Bool} {j k : Nat} (hb : backB ops = true) (ht : tailB md ops k = true) (h : Upto ops listed j) (hk : k ≤ j) (hj : j < ops.size) : (∀ i, i ∈ Region.ready md ops listed → i = j) ∧ j ∈ Region.ready md ops listed := by
  have h1 : ∀ i, i ∈ Region.ready md ops listed → i = j := fun i hi => by
    obtain ⟨h2, o2, ho2, _⟩ := mem_ready.1 hi
    have his : i < ops.size := (Array.getElem?_eq_some_iff.1 ho2).1
    rcases Nat.lt_trichotomy i j with q | q | q
    · rw [h.yes i q] at h2; cases h2
    · exact q
    · have := tail_ready ht (h.shut hb) h.size hi (by omega) j q
      rw [h.no j (Nat.le_refl _) hj] at this
      cases this
  refine ⟨h1, ?_⟩
  have h0 := ready_some (md := md) hb h.size (h.no j (Nat.le_refl _) hj)
  obtain ⟨x, hx⟩ := List.exists_mem_of_ne_nil _ h0
  have := h1 x hx
  subst this
  exact hx
/-- The rest, in the text's order. -/
theorem any_tail {Q : Exit → Act → World → Prop} {k : Nat} (hb : backB ops = true) (ht : tailB md ops k = true) (hp : plainB ops = true) :
    ∀ (post : List Oper) (j fuel : Nat) (listed : Array Bool) (a : Act) (w : World), (∀ i, post[i]? = ops[j + i]?) → k ≤ j → j + post.length = ops.size → Upto ops listed j → post.length ≤ fuel → wpListIn F' n P ops Q post a w → wpAnyIn F' n P md ops Q fuel listed a w
  | [], j, fuel, listed, a, w, _, hk, hj, hu, _, h => by
    simp only [List.length_nil, Nat.add_zero] at hj
    subst hj
    exact wpAnyIn_done hu.over h fuel
  | o :: post, j, 0, listed, a, w, _, _, _, _, hf, _ => by simp at hf
  | o :: post, j, fuel + 1, listed, a, w, hp', hk, hj, hu, hf, h => by
    simp only [List.length_cons] at hj hf
    have h1 := hu.one hb ht hk (by omega)
    refine ⟨fun h0 => (by rw [h0] at h1; cases h1.2), fun i hi => ?_⟩
    obtain rfl := h1.1 i hi
    have ho : ops[i]? = some o := by simpa using (hp' 0).symm
    have hg := plainB_spec hp ho
    unfold wpOpIn
    rw [ho]
    simp only [wanted_plain hg, if_true]
    unfold wpListIn at h
    rw [if_pos (wanted_plain hg _)] at h
    refine Oper.wpIn_mono (fun a' w' q => ?_) h
    exact any_tail hb ht hp post (i + 1) fuel _ a' w' (fun m => by have := hp' (m + 1); simpa [Nat.add_assoc, Nat.add_comm 1 m] using this) (by omega) (by omega) (hu.next (by omega)) (by omega) q
/-- The same operations, those from k on skipped. -/
structure Skips (ops ops' : Array Oper) (k : Nat) : Prop where
  size : ops'.size = ops.size
  same : ∀ i, i < k → ops'[i]? = ops[i]?
  skip : ∀ i o, k ≤ i → ops[i]? = some o → ops'[i]? = some (skipOf o)
theorem Skips.ready {k : Nat} (h : Skips ops ops' k) (listed : Array Bool) : Region.ready md ops' listed = Region.ready md ops listed := by
  have hafter : ∀ i, (ops'[i]?).map Oper.after = (ops[i]?).map Oper.after := fun i => by
    rcases Nat.lt_or_ge i k with q | q
    · rw [h.same i q]
    · rcases Nat.lt_or_ge i ops.size with r | r
      · obtain ⟨o, ho⟩ : ∃ o, ops[i]? = some o := ⟨ops[i], by simp [r]⟩
        rw [h.skip i o q ho, ho]
        rfl
      · have h2 := h.size
        rw [Array.getElem?_eq_none r, Array.getElem?_eq_none (by omega)]
  unfold Region.ready
  rw [h.size]
  apply List.filter_congr
  intro i _
  have := hafter i
  cases h1 : ops'[i]? with
  | none => rw [h1] at this; cases h2 : ops[i]? with
    | none => rfl
    | some x => rw [h2] at this; cases this
  | some y => rw [h1] at this; cases h2 : ops[i]? with
    | none => rw [h2] at this; cases this
    | some x => rw [h2] at this; simp at this; simp [this]
theorem quiet_tail {Qf : Act → Prop} {k : Nat} (hs : Skips ops ops' k) (hb : backB ops = true) (ht : tailB md ops k = true) :
    ∀ (d j fuel : Nat) (listed : Array Bool) (a : Act), k ≤ j → j + d = ops.size → Upto ops listed j → wpAnyQIn F n P md ops' C Qf fuel listed a → Qf a ∧ d ≤ fuel
  | 0, j, fuel, listed, a, hk, hj, hu, h => by
    simp only [Nat.add_zero] at hj
    subst hj
    refine ⟨?_, Nat.zero_le _⟩
    cases fuel with
    | zero => exact h.2
    | succ f => exact h.1 (by rw [hs.ready]; exact hu.over)
  | d + 1, j, 0, listed, a, hk, hj, hu, h => by
    have h1 := hu.one (md := md) hb ht hk (by omega)
    have h0 : Region.ready md ops' listed = [] := h.1
    rw [hs.ready] at h0
    rw [h0] at h1
    cases h1.2
  | d + 1, j, fuel + 1, listed, a, hk, hj, hu, h => by
    have h1 := hu.one (md := md) hb ht hk (by omega)
    have h2 := h.2 j (by rw [hs.ready]; exact h1.2)
    obtain ⟨o, ho⟩ : ∃ o, ops[j]? = some o := ⟨ops[j], by simp [show j < ops.size by omega]⟩
    unfold qOpIn at h2
    rw [hs.skip j o hk ho] at h2
    obtain ⟨_, h2⟩ := h2
    have hw : Region.wanted (skipOf o) (yielded ops' a.tmps) = true := rfl
    rw [if_pos hw] at h2
    obtain ⟨v, _, h2⟩ := h2
    have h2' : wpAnyQIn F n P md ops' C Qf fuel (listed.setIfInBounds j true) a := h2
    have := quiet_tail hs hb ht d (j + 1) fuel _ a (by omega) (by omega) (hu.next (by omega)) h2'
    exact ⟨this.1, by omega⟩
theorem any_of_quiet_tail {Q : Exit → Act → World → Prop} {k : Nat} {post : List Oper} (hG : Grants F F' n P) (hnd : noDefer ops = true) (hp : plainB ops = true) (hb : backB ops = true) (ht : tailB md ops k = true) (hs : Skips ops ops' k) (hpost : ∀ i, post[i]? = ops[k + i]?) (hk : k + post.length = ops.size) :
    ∀ (fuel : Nat) (listed : Array Bool) (a : Act) (w : World), listed.size = ops.size → Shut md ops listed → (∀ i, k ≤ i → i < ops.size → listed.getD i true = false) → C w →
      wpAnyQIn F n P md ops' C (fun a' => ∀ w', C w' → wpListIn F' n P ops Q post a' w') fuel listed a → wpAnyIn F' n P md ops Q fuel listed a w := by
  intro fuel
  induction fuel with
  | zero =>
    intro listed a w h1 hsh h2 hC h
    by_cases hall : ∀ i, i < k → listed.getD i true = true
    · have hu : Upto ops listed k := ⟨h1, hall, h2⟩
      have q := quiet_tail hs hb ht post.length k 0 listed a (Nat.le_refl _) hk hu h
      exact any_tail hb ht hp post k 0 listed a w hpost (Nat.le_refl _) hk hu q.2 (q.1 w hC)
    · have h0 : Region.ready md ops' listed = [] := h.1
      rw [hs.ready] at h0
      refine absurd h0 ?_
      simp only [Classical.not_forall] at hall
      obtain ⟨i, hi, hf⟩ := hall
      exact ready_some hb h1 (k := i) (by cases e : listed.getD i true with | true => exact absurd e hf | false => rfl)
  | succ fuel ih =>
    intro listed a w h1 hsh h2 hC h
    by_cases hall : ∀ i, i < k → listed.getD i true = true
    · have hu : Upto ops listed k := ⟨h1, hall, h2⟩
      have q := quiet_tail hs hb ht post.length k (fuel + 1) listed a (Nat.le_refl _) hk hu h
      exact any_tail hb ht hp post k (fuel + 1) listed a w hpost (Nat.le_refl _) hk hu q.2 (q.1 w hC)
    · refine ⟨fun h0 => ?_, fun i hi => ?_⟩
      · refine absurd h0 ?_
        simp only [Classical.not_forall] at hall
        obtain ⟨i, hi, hf⟩ := hall
        exact ready_some hb h1 (k := i) (by cases e : listed.getD i true with | true => exact absurd e hf | false => rfl)
      · have hik : i < k := by
          rcases Nat.lt_or_ge i k with q | q
          · exact q
          · exact absurd (fun j hj => tail_ready ht hsh h1 hi q j (by omega)) hall
        have h3 := h.2 i (by rw [hs.ready]; exact hi)
        exact wpOpIn_of_qOpIn_tail hG hnd hp (hs.same i hik) hC (fun a' w' hC' h' => ih _ a' w' (by simp [h1]) (hsh.next h1 hi) (fun j hj hjs => by rw [getD_set_ne true (by omega)]; exact h2 j hj hjs) hC' h') h3
theorem wpQuietIn_skips {Q : Act → Prop} {a : Act} : ∀ l : List Oper, Q a → wpQuietIn F n P ops C Q (l.map skipOf) a
  | [], h => wpQuietIn_nil h
  | o :: l, h => by
    refine wpQuietIn_step (fun w _ f hf => by simp [Oper.about, skipOf] at hf) (fun K hK => ?_)
    rw [if_pos (by rfl)]
    exact ⟨undef, fun w _ => ⟨rfl, rfl⟩, hK _ (wpQuietIn_skips l h)⟩
theorem wpQuietIn_app {Q : Act → Prop} {post : List Oper} : ∀ (pre : List Oper) (a : Act), (∀ o ∈ pre, o.guard = none) → wpQuietIn F n P ops C (wpQuietIn F n P ops' C Q post) pre a → wpQuietIn F n P ops' C Q (pre ++ post) a
  | [], a, _, h => h
  | o :: pre, a, hg, h => by
    have hw := hg o (by simp)
    refine ⟨h.1, ?_⟩
    have h2 := h.2
    rw [if_pos (wanted_plain hw _)] at h2 ⊢
    obtain ⟨v, q1, q2⟩ := h2
    exact ⟨v, q1, wpQuietIn_app pre _ (fun o' ho' => hg o' (List.mem_cons_of_mem _ ho')) q2⟩
theorem wpQuietIn_mono {Q Q' : Act → Prop} (hQ : ∀ a, Q a → Q' a) : ∀ (l : List Oper) (a : Act), wpQuietIn F n P ops C Q l a → wpQuietIn F n P ops C Q' l a
  | [], a, h => hQ a h
  | o :: l, a, h => by
    refine ⟨h.1, ?_⟩
    have h2 := h.2
    split
    · rename_i q
      rw [if_pos q] at h2
      exact Oper.quietIn_mono (wpQuietIn_mono hQ l) h2
    · rename_i q
      rw [if_neg q] at h2
      exact wpQuietIn_mono hQ l _ h2
/-- The region, its operations 'pre ++ post'. C: 'some draws later'. -/
theorem wpIn_region_tail {id : Nat} {Q : Exit → Act → World → Prop} {a : Act} {w : World} {os pre post : List Oper} (hG : Grants F F' n P) (hm : P.follows .mixedOrders = true) (k : Nat) (hpre : os.take k = pre) (hpost : os.drop k = post)
    (hnd : noDefer os.toArray = true) (hp : plainB os.toArray = true) (hb : backB os.toArray = true) (ht : tailB .any os.toArray k = true) (hB : Region.lexB .any (os.take k ++ (os.drop k).map skipOf).toArray = true) (hk : decide (k ≤ os.length) = true)
    (h : wpQuietIn F n P os.toArray (fun w' => ∃ m, w' = w.drewN m) (fun a' => ∀ w', (∃ m, w' = w.drewN m) → wpListIn F' n P os.toArray Q post a' w') pre a) : (Code.region id os.toArray true).wpIn F' n P Q a w := by
  subst hpre; subst hpost
  have hk := of_decide_eq_true hk
  have hlt : (os.take k).length = k := by rw [List.length_take]; omega
  have hs : Skips os.toArray (os.take k ++ (os.drop k).map skipOf).toArray k := by
    refine ⟨by simp; omega, fun i hi => ?_, fun i o hi ho => ?_⟩
    · simp only [List.getElem?_toArray]
      rw [List.getElem?_append_left (by omega), List.getElem?_take, if_pos hi]
    · simp only [List.getElem?_toArray] at ho ⊢
      rw [List.getElem?_append_right (by omega), hlt, List.getElem?_map, List.getElem?_drop, show k + (i - k) = i by omega, ho]
      rfl
  simp only [Region.lexB, Bool.and_eq_true] at hB
  refine wpIn_region_any hm (any_of_quiet_tail (F := F) (C := fun w' => ∃ m, w' = w.drewN m) (k := k) (post := os.drop k) hG hnd hp hb ht hs (fun i => by simp [List.getElem?_drop]) (by simp; omega) _ _ _ _ (by simp) (fun i o _ hi => by simp [Array.getD] at hi) (fun i _ hi => by simp only [List.size_toArray] at hi; simp [Array.getD, hi]) ⟨1, rfl⟩ ?_)
  have h2 : wpQuietIn F n P (os.take k ++ (os.drop k).map skipOf).toArray (fun w' => ∃ m, w' = w.drewN m) (fun a' => ∀ w', (∃ m, w' = w.drewN m) → wpListIn F' n P os.toArray Q (os.drop k) a' w') (os.take k ++ (os.drop k).map skipOf) a :=
    wpQuietIn_app (ops := os.toArray) _ a (fun o ho => by
      obtain ⟨i, hi, rfl⟩ := List.getElem_of_mem ho
      refine plainB_spec hp (i := i) ?_
      rw [List.length_take] at hi
      simp [show i < os.length by omega]) (wpQuietIn_mono (fun a' q => wpQuietIn_skips _ q) _ _ h)
  have := wpAnyQIn_lex (F := F) (n := n) (C := fun w' => ∃ m, w' = w.drewN m) (md := .any) hB.1 (os.take k ++ (os.drop k).map skipOf) 0 (Array.replicate os.toArray.size false) a (by simp) (by rw [show os.toArray.size = (os.take k ++ (os.drop k).map skipOf).toArray.size by simp; omega]; simpa using hB.2) h2
  have e : os.toArray.size = (os.take k ++ (os.drop k).map skipOf).length := by simp; omega
  rw [e] at this ⊢
  exact this
end
end Go.Proofs.Ythajooipaiiieaa.Round
