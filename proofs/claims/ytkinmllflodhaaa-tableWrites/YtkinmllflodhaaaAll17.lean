/- Joined out of the texts TabLawB, RoundQuiet, RoundRead, TabAhead, TabTxn, TabApps, TabWrs, in that order. -/
import Derived.Test.YtkinmllflodhaaaAll16
import Derived.Test.YtkinmllflodhaaaAll14
import Derived.Sort.BigQuietIn
import Derived.RangeFuncNested
import Derived.RangeFuncCalls
import Derived.Test.YtkinmllflodhaaaAll15
import Derived.Test.YtkinmllflodhaaaAll11
/- More of what a law of layer 12 has about it: what each call leaves, told over the world ahead of it; the beginning of a table. -/
namespace Go.Proofs.Ytkinmllflodhaaa.Tab
open Go.RowKit Go.Proofs.Ytkinmllflodhaaa.Dig Go.Proofs.Ytkinmllflodhaaa.Mem Go.Proofs.Ytkinmllflodhaaa.Hist Go.Proofs.Ytkinmllflodhaaa.Own Go.Proofs.Ytkinmllflodhaaa.Thing Go.Proofs.Ytkinmllflodhaaa.Sets Go.Shelf Go.Proofs.Ytkinmllflodhaaa.Keys Go.Proofs.Ytkinmllflodhaaa.Ro
set_option linter.unusedVariables false
set_option linter.unusedSimpArgs false

variable {w W W' : World} {ta : Option Addr} {n tcap : Nat} {ts : List TxnM} {bT : Nat} {s : Tb}
theorem fewLB (h : Hid (LH w ta n tcap ts W)) : Calls Try.prog 7 #[.agg #[.slice ta n tcap], .int .i64 20, .int .i64 60] W fun e w' => ∃ r, e = .returned (.bool r) ∧ Hid (r = true → FewH ts) ∧ Hid (Below W.heap.size W w') := by
  refine (rfew2_any _ _ ts W h.out.hist).mono ?_
  rintro e w' ⟨r, rfl, h1, h2⟩
  exact ⟨r, rfl, h1, h2⟩
/-- .. where the history may be. -/
theorem newLB (h : Hid (LH w ta n tcap ts W)) (hf : Hid (FewH ts)) (hc : Hid (0 = checkS ts)) : Calls Try.prog 9 #[.agg #[.slice ta n tcap]] W fun e w' =>
    ∃ bT us, e = .returned (.tuple #[.pointer (some ⟨bT, 0, none⟩), .int .i64 0]) ∧ Hid (Below W.heap.size W w') ∧ Hid (TabV w' (.pointer (some ⟨bT, 0, none⟩)) (docIds ts) (docKeys ts) (tb (flat us))) ∧ Hid (Ord ts us ∧ Uq ts) := by
  refine (new_any _ ts W h.out.wide hf.out.f4 hf.out.ft).mono ?_
  rintro e w' (⟨q, rfl, hb⟩ | ⟨q, bT, rfl, hm⟩)
  · exact absurd hc.out.symm q
  · obtain ⟨us, ho, hv⟩ := hm.vw hf.out.ft
    refine ⟨bT, us, rfl, hm.below, .inr ⟨bT, rfl, ?_⟩, ho, valid_uq (checkS_ok q).1⟩
    rw [← ids_ord ho]
    exact hv
theorem own_is {β : Type} {B b : Nat} (hb : b < B) (f : β → Array Value) : OwnFrom B (fun (s : β) W => Is W b (f s)) := fun s W W' row hs hg hr => by
  obtain ⟨T, h⟩ := hs
  exact ⟨T, (hg.block b (Array.getElem?_eq_some_iff.1 h).1 (fun e => by have := (hr b e.symm).1; omega)).trans h⟩
theorem own_only {β : Type} {B : Nat} {S : Nat → Prop} {w0 : World} (hB : w0.heap.size ≤ B) : OwnFrom B (fun (_ : β) W => Only S w0 W) := fun s W W' row hs hg hr =>
  ⟨hg.os.trans hs.os, hg.tape.trans hs.tape, hg.output.trans hs.output, Nat.le_trans hs.size hg.size, fun k hk hn => (hg.block k (Nat.lt_of_lt_of_le hk hs.size) (fun e => by have := (hr k e.symm).1; omega)).trans (hs.block k hk hn)⟩
/-- A loop's record turns: what is cells lies as it lay. -/
theorem only_rec {W₁ W₂ : World} {l : Nat} (hg : W₁.grownBy W₂ (some l)) : Only (fun k => k = l) W₁ W₂ := ⟨hg.os, hg.tape, hg.output, hg.size, fun k hk hn => hg.block k hk (fun e => hn (Option.some.inj e))⟩
theorem is_not {W : World} {b l : Nat} {cs : Array Value} (h : Is W b cs) (hl : ∃ o : Obj, W.heap[l]? = some o ∧ o.isCells = false) : ¬ b = l := fun e => by
  obtain ⟨T, q⟩ := h
  obtain ⟨o, ho, hc⟩ := hl
  rw [← e, q] at ho
  cases ho
  cases hc
end Go.Proofs.Ytkinmllflodhaaa.Tab

/- A region in a round of a range over a function, whose operations read alone, but for the last one, a store behind all others: one walk in the text's order serves every order. -/
namespace Go.Proofs.Ytkinmllflodhaaa.Round
open Go Go.RowKit
set_option linter.unusedVariables false
set_option linter.unusedSimpArgs false

section
variable {F : Fence} {n : Nat} {P : Program} {ops ops' : Array Oper} {md : Region.Mode} {C : World → Prop} {l : Nat}
def skipOf (o : Oper) : Oper := { o with op := .assign (.const undef), dst := none, guard := none }
def noDefer (ops : Array Oper) : Bool := ops.all fun o => match o.op with | .defer _ => false | _ => true
theorem noDefer_spec (h : noDefer ops = true) {i : Nat} {o : Oper} (ho : ops[i]? = some o) (c : Call) : o.op ≠ .defer c := by
  intro e
  have := Array.all_eq_true_iff_forall_mem.1 h o (Array.mem_of_getElem? ho)
  rw [e] at this
  cases this
/-- Edges lead back, and the last operation waits for all others. -/
def backB (ops : Array Oper) : Bool := (List.range ops.size).all fun i => match ops[i]? with | some o => o.after.all fun e => decide (e.on < i) | none => true
def lastB (md : Region.Mode) (ops : Array Oper) (k : Nat) : Bool := match ops[k]? with | some o => (List.range k).all fun j => o.after.any fun e => e.on == j && Region.binds md e | none => false
theorem backB_spec (h : backB ops = true) {i : Nat} {o : Oper} (ho : ops[i]? = some o) {e : _} (he : e ∈ o.after) : e.on < i := by
  unfold backB at h
  have h1 := List.all_eq_true.1 h i (List.mem_range.2 (Array.getElem?_eq_some_iff.1 ho).1)
  rw [ho] at h1
  exact of_decide_eq_true (Array.all_eq_true_iff_forall_mem.1 h1 e he)
/-- While one has not come up, one may. -/
theorem ready_some (hb : backB ops = true) {listed : Array Bool} (hs : listed.size = ops.size) {k : Nat} (hk : listed.getD k true = false) : Region.ready md ops listed ≠ [] := by
  have key : ∀ k, listed.getD k true = false → ∃ j, listed.getD j true = false ∧ ∀ i, i < j → listed.getD i true = true := by
    intro k
    induction k using Nat.strongRecOn with
    | ind k ih =>
      intro hk
      by_cases q : ∃ i, i < k ∧ listed.getD i true = false
      · obtain ⟨i, hi, h⟩ := q
        exact ih i hi h
      · exact ⟨k, hk, fun i hi => by
          cases e : listed.getD i true with
          | true => rfl
          | false => exact absurd ⟨i, hi, e⟩ q⟩
  obtain ⟨j, hj, hall⟩ := key k hk
  have hjs : j < ops.size := by
    apply Nat.lt_of_not_le
    intro q
    simp [Array.getD, show ¬ j < listed.size by omega] at hj
  intro h0
  have : j ∈ Region.ready md ops listed := mem_ready.2 ⟨hj, ops[j], by simp [hjs], fun e he _ => by
    have hlt := backB_spec hb (i := j) (o := ops[j]) (by simp [hjs]) he
    have := hall _ hlt
    have hls : e.on < listed.size := by omega
    simp [Array.getD, hls] at this ⊢
    exact this⟩
  rw [h0] at this
  cases this
theorem wpIn_of_quiet_round {o : Oper} {a : Act} {K : Act → Prop} {K' : Act → World → Prop} {Q' : Exit → Act → World → Prop} {w : World} (hnd : ∀ c, o.op ≠ .defer c) (hw : C w) (h : ∀ a w', C w' → K a → K' a w')
    (ha : o.askedIn F P a C) (hh : o.quietIn F n P a C K) : o.wpIn (F.inRound l) n P a w K' Q' := by
  obtain ⟨v, h1, h2⟩ := hh
  have h3 := h1 w hw
  unfold Oper.quietAtIn at h3
  unfold Oper.wpIn
  refine ⟨ha w hw, ?_⟩
  rw [Oper.semAt_eq _ _ _ hnd]
  generalize (execOp a.eval o).run P w = r at *
  cases r with
  | ok x w' =>
    cases x <;> simp only [Oper.quietUponIn] at h3 <;> simp only [Oper.uponIn]
    case value u =>
      obtain ⟨e1, e2⟩ := h3
      rw [e1, e2]
      exact h _ _ hw h2
    case skip =>
      obtain ⟨e1, e2⟩ := h3
      rw [e1, ← e2]
      exact h _ _ hw h2
    case enter f args =>
      obtain ⟨e1, hd, hc⟩ := h3
      rw [e1]
      exact ⟨hd, (CallsIn.inRound l hc).mono fun e w'' ⟨he, hw''⟩ => by subst he; exact h _ _ hw'' h2⟩
  | halt x w' => simp only [Oper.quietUponIn] at h3
theorem wpOpIn_of_qOpIn_round {i : Nat} {a : Act} {K : Act → Prop} {K' : Act → World → Prop} {Q' : Exit → Act → World → Prop} {w : World} (hnd : noDefer ops = true) (hy : yielded ops' = yielded ops) (hi : ops'[i]? = ops[i]?) (hC : C w) (h : ∀ a w', C w' → K a → K' a w')
    (hh : qOpIn F n P ops' C i K a) : wpOpIn (F.inRound l) n P ops Q' i K' a w := by
  unfold qOpIn at hh
  unfold wpOpIn
  rw [hi, hy] at hh
  split
  · rename_i ho; simp only [ho] at hh; exact h _ _ hC hh
  · rename_i o ho
    simp only [ho] at hh
    obtain ⟨ha, hh⟩ := hh
    split
    · rename_i hw; simp only [hw, if_true] at hh; exact wpIn_of_quiet_round (noDefer_spec hnd ho) hC h ha hh
    · rename_i hw; simp only [hw] at hh; exact ⟨ha w hC, h _ _ hC hh⟩
theorem getD_set_same {listed : Array Bool} {k : Nat} (b : Bool) (hk : k < listed.size) : (listed.setIfInBounds k true).getD k b = true := by
  simp [Array.getD, hk]
theorem listed_default {listed : Array Bool} {j : Nat} (hj : j < listed.size) (b c : Bool) : listed.getD j b = listed.getD j c := by simp [Array.getD, hj]
/-- While the last one has not come up. -/
theorem any_of_quiet_last {Q' : Exit → Act → World → Prop} {k : Nat} {o : Oper} (hnd : noDefer ops = true) (hb : backB ops = true) (hk : ops.size = k + 1) (ho : ops[k]? = some o) (hl : lastB md ops k = true) (hsz : ops'.size = ops.size) (hsame : ∀ i, i ≠ k → ops'[i]? = ops[i]?) (hk' : ops'[k]? = some (skipOf o)) (hdst : o.dst = none) :
    ∀ (fuel : Nat) (listed : Array Bool) (a : Act) (w : World), listed.size = ops.size → listed.getD k true = false → C w →
      wpAnyQIn F n P md ops' C (fun a' => ∀ w', C w' → wpOpIn (F.inRound l) n P ops Q' k (fun a w => Q' .normal a w) a' w') fuel listed a → wpAnyIn (F.inRound l) n P md ops Q' fuel listed a w := by
  have hafter : ∀ i, (ops'[i]?).map Oper.after = (ops[i]?).map Oper.after := fun i => by
    by_cases e : i = k
    · subst e; rw [hk', ho]; rfl
    · rw [hsame i e]
  have hready : ∀ listed, Region.ready md ops' listed = Region.ready md ops listed := fun listed => by
    unfold Region.ready
    rw [hsz]
    apply List.filter_congr
    intro i _
    have := hafter i
    cases h1 : ops'[i]? with
    | none => rw [h1] at this; cases h2 : ops[i]? with
      | none => rfl
      | some x => rw [h2] at this; cases this
    | some y => rw [h1] at this; cases h2 : ops[i]? with
      | none => rw [h2] at this; cases this
      | some x => rw [h2] at this; simp at this; simp [this]
  have hyield : yielded ops' = yielded ops := by
    funext tmps j
    unfold yielded
    have : (ops'[j]?).bind (·.dst) = (ops[j]?).bind (·.dst) := by
      by_cases e : j = k
      · subst e; rw [hk', ho]; simp [skipOf, hdst]
      · rw [hsame j e]
    rw [this]
  intro fuel
  induction fuel with
  | zero =>
    intro listed a w hs hkl hC h
    have h0 : Region.ready md ops' listed = [] := h.1
    rw [hready] at h0
    exact absurd h0 (ready_some hb hs hkl)
  | succ fuel ih =>
    intro listed a w hs hkl hC h
    refine ⟨fun h0 => absurd h0 (ready_some hb hs hkl), fun i hi => ?_⟩
    have h1 := h.2 i (by rw [hready]; exact hi)
    by_cases e : i = k
    · subst e
      have hall : ∀ j, j < i → listed.getD j true = true := fun j hj => by
        obtain ⟨_, o2, ho2, h2⟩ := mem_ready.1 hi
        rw [ho] at ho2
        obtain rfl := Option.some.inj ho2
        unfold lastB at hl
        rw [ho] at hl
        have := List.all_eq_true.1 hl j (List.mem_range.2 hj)
        obtain ⟨q, hqs, hq⟩ := Array.any_eq_true.1 this
        rw [Bool.and_eq_true, beq_iff_eq] at hq
        rw [listed_default (by omega) true false, ← hq.1]
        exact h2 _ (Array.getElem_mem hqs) hq.2
      have hr0 : Region.ready md ops (listed.setIfInBounds i true) = [] := by
        rw [List.eq_nil_iff_forall_not_mem]
        intro j hj
        obtain ⟨h2, o2, ho2, _⟩ := mem_ready.1 hj
        have hjs : j < ops.size := (Array.getElem?_eq_some_iff.1 ho2).1
        by_cases ej : j = i
        · subst ej; rw [getD_set_same true (by omega)] at h2; cases h2
        · rw [getD_set_ne true (Ne.symm ej), hall j (by omega)] at h2; cases h2
      unfold qOpIn at h1
      rw [hk'] at h1
      obtain ⟨_, h1⟩ := h1
      have hw : Region.wanted (skipOf o) (yielded ops' a.tmps) = true := rfl
      rw [if_pos hw] at h1
      obtain ⟨v, _, h1⟩ := h1
      have h1' : wpAnyQIn F n P md ops' C (fun a' => ∀ w', C w' → wpOpIn (F.inRound l) n P ops Q' i (fun a w => Q' .normal a w) a' w') fuel (listed.setIfInBounds i true) a := h1
      have hQ : ∀ w', C w' → wpOpIn (F.inRound l) n P ops Q' i (fun a w => Q' .normal a w) a w' := by
        cases fuel with
        | zero => exact h1'.2
        | succ f => exact h1'.1 (by rw [hready]; exact hr0)
      exact wpOpIn_mono (fun a' w' q => wpAnyIn_done hr0 q fuel) (hQ w hC)
    · exact wpOpIn_of_qOpIn_round hnd hyield (hsame i e) hC (fun a' w' hC' h' => ih _ a' w' (by simp [hs]) (by rw [getD_set_ne true e]; exact hkl) hC' h') h1
theorem wpQuietIn_last {Q : Act → Prop} {a : Act} {o : Oper} (h : Q a) : wpQuietIn F n P ops C Q [skipOf o] a := by
  refine wpQuietIn_step (fun w _ f hf => by simp [Oper.about, skipOf] at hf) (fun K hK => ?_)
  rw [if_pos (by rfl)]
  exact ⟨undef, fun w _ => ⟨rfl, rfl⟩, hK _ (wpQuietIn_nil h)⟩
/-- The region. C: 'some draws later'. -/
theorem wpIn_round_store {id k : Nat} {Q : Exit → Act → World → Prop} {a : Act} {w : World} {os : List Oper} {o : Oper} (hm : P.follows .mixedOrders = true) (ho : os[k]? = some o) (hk : os.length = k + 1) (hdst : o.dst = none)
    (hnd : noDefer os.toArray = true) (hb : backB os.toArray = true) (hl : lastB .any os.toArray k = true) (hB : Region.lexB .any (os.set k (skipOf o)).toArray = true)
    (h : wpQuietIn F n P (os.set k (skipOf o)).toArray (fun w' => ∃ m, w' = w.drewN m) (fun a' => ∀ w', (∃ m, w' = w.drewN m) → wpOpIn (F.inRound l) n P os.toArray Q k (fun a w => Q .normal a w) a' w') (os.set k (skipOf o)) a) : (Code.region id os.toArray true).wpIn (F.inRound l) n P Q a w := by
  simp only [Region.lexB, Bool.and_eq_true] at hB
  have hlt : k < os.length := by omega
  refine wpIn_region_any hm (any_of_quiet_last (F := F) (C := fun w' => ∃ m, w' = w.drewN m) (k := k) (o := o) (ops' := (os.set k (skipOf o)).toArray) hnd hb (by simpa using hk) (by simpa using ho) hl (by simp) (fun i hi => ?_) ?_ hdst _ _ _ _ (by simp) (by simp [Array.getD, hlt]) ⟨1, rfl⟩ ?_)
  · simp [List.getElem?_set, Ne.symm hi]
  · simp [List.getElem?_set, hlt]
  · have := wpAnyQIn_lex (F := F) (n := n) (C := fun w' => ∃ m, w' = w.drewN m) (md := .any) hB.1 (os.set k (skipOf o)) 0 (Array.replicate os.toArray.size false) a (by simp) (by simpa using hB.2) h
    simpa using this
end
end Go.Proofs.Ytkinmllflodhaaa.Round

/- A region in a round of a range over a function, all of whose operations read (calls may be among them, guards too): one walk in the text's order serves every order. -/
namespace Go.Proofs.Ytkinmllflodhaaa.Round
open Go Go.RowKit
set_option linter.unusedVariables false

section
variable {F : Fence} {n : Nat} {P : Program} {ops : Array Oper} {md : Region.Mode} {C : World → Prop} {l : Nat}
theorem any_of_quiet_round {Q : Act → Prop} {Q' : Exit → Act → World → Prop} (hnd : noDefer ops = true) (hQ : ∀ a w, C w → Q a → Q' .normal a w) : ∀ (fuel : Nat) (listed : Array Bool) (a : Act) (w : World), C w →
    wpAnyQIn F n P md ops C Q fuel listed a → wpAnyIn (F.inRound l) n P md ops Q' fuel listed a w
  | 0, _, _, _, hw, h => ⟨h.1, hQ _ _ hw h.2⟩
  | fuel + 1, _, _, _, hw, h => ⟨fun h0 => hQ _ _ hw (h.1 h0), fun i hi => wpOpIn_of_qOpIn_round hnd rfl rfl hw (fun a' w' hw' h' => any_of_quiet_round hnd hQ fuel _ a' w' hw' h') (h.2 i hi)⟩
theorem wpIn_region_reads {id : Nat} {Q : Exit → Act → World → Prop} {a : Act} {w : World} {os : List Oper} (hm : P.follows .mixedOrders = true) (hnd : noDefer os.toArray = true) (hB : Region.lexB .any os.toArray = true)
    (h : wpQuietIn F n P os.toArray (fun w' => ∃ m, w' = w.drewN m) (fun a' => ∀ w', (∃ m, w' = w.drewN m) → Q .normal a' w') os a) : (Code.region id os.toArray true).wpIn (F.inRound l) n P Q a w := by
  simp only [Region.lexB, Bool.and_eq_true] at hB
  refine wpIn_region_any hm (any_of_quiet_round (F := F) (C := fun w' => ∃ m, w' = w.drewN m) (Q := fun a' => ∀ w', (∃ m, w' = w.drewN m) → Q .normal a' w') hnd (fun _ w' hw' h => h w' hw') _ _ _ _ ⟨1, rfl⟩ ?_)
  have := wpAnyQIn_lex (F := F) (n := n) (C := fun w' => ∃ m, w' = w.drewN m) (md := .any) hB.1 os 0 (Array.replicate os.toArray.size false) a (by simp) (by simpa using hB.2) (by simpa using h)
  simpa using this
end
end Go.Proofs.Ytkinmllflodhaaa.Round

/- The document's values that a transaction appends to a key with its first operations. -/
namespace Go.Proofs.Ytkinmllflodhaaa.Tab
open Go.RowKit Go.Proofs.Ytkinmllflodhaaa.Dig Go.Proofs.Ytkinmllflodhaaa.Mem Go.Proofs.Ytkinmllflodhaaa.Hist Go.Proofs.Ytkinmllflodhaaa.Own Go.Proofs.Ytkinmllflodhaaa.Thing Go.Proofs.Ytkinmllflodhaaa.Sets Go.Shelf Go.Proofs.Ytkinmllflodhaaa.Keys
set_option linter.unusedVariables false
set_option linter.unusedSimpArgs false

def ahR (w : World) (os : List OpM) (key : Int) (n : Nat) (ov kv : Value) (wr : World) : Prop :=
  ∃ (k : Nat), k ≤ n ∧ kv = .int .i64 (k : Int) ∧ Hid (wr.ownsRow w.heap.size 3 1 ov (aheadL (os.take k) key).length ((aheadL (os.take k) key).map (Value.int .i64))) ∧ Hid (Below w.heap.size w wr)
theorem ahead_hit {os : List OpM} {k : Nat} {key : Int} (h : k < os.length) (h1 : os[k].read = false) (h2 : os[k].key = key) : aheadL (os.take (k + 1)) key = aheadL (os.take k) key ++ [os[k].value] := by
  unfold aheadL
  rw [List.take_succ_eq_append_getElem h, List.filter_append, List.map_append]
  simp [h1, h2]
theorem ahead_miss {os : List OpM} {k : Nat} {key : Int} (h : k < os.length) (h1 : os[k].read = true ∨ os[k].key ≠ key) : aheadL (os.take (k + 1)) key = aheadL (os.take k) key := by
  unfold aheadL
  rw [List.take_succ_eq_append_getElem h, List.filter_append, List.map_append]
  rcases h1 with h1 | h1 <;> simp [h1]
theorem ahead_le (os : List OpM) (key : Int) : (aheadL os key).length ≤ os.length := by
  unfold aheadL
  rw [List.length_map]
  exact List.length_filter_le _ _
set_option maxRecDepth 20000 in
set_option maxHeartbeats 4000000 in
theorem ahead_any (F : Nat → Prop) (id : Int) (ab : Bool) (v : Value) (os : List OpM) (key : Int) (n : Nat) (w : World) (h : OpsAt F w v os) (hn : n ≤ os.length) (hm : os.length ≤ 1000) :
    Calls Try.prog 45 #[.agg #[.int .i64 id, .bool ab, v], .int .i64 key, .int .i64 (n : Int)] w fun e w' => (∃ a c, e = .returned (.slice a (aheadL (os.take n) key).length c) ∧ RowV w' a c (aheadL (os.take n) key)) ∧ Below w.heap.size w w' := by
  obtain ⟨i0, hi, hz0, hz1, hz2⟩ := info_parts Try.infoSetInt
  obtain ⟨a, c, rfl, hc1, hc2⟩ := h.shape
  unfold maxLen at hc2
  have H : Hid (OpsAt F w (.slice a os.length c) os) := h
  clear h
  have HWFA : Hid (∀ x ∈ aheadL (os.take n) key, (Lit.int .i64 x).wf = true) := hide (by
    intro x hx
    obtain ⟨o, ho, rfl⟩ := List.mem_map.1 hx
    obtain ⟨i, hi, e⟩ := List.getElem_of_mem (List.mem_of_mem_take (List.mem_filter.1 ho).1)
    have hw := H.out.at hi
    obtain ⟨_, _, _, _, _, _, _, _, _, _, _, _, _, hw⟩ := hw
    rw [e] at hw
    exact hw)
  go_enter Try.func45, Try.ntmps45
  go_upto_region 1 with fail
  obtain ⟨w1, hw1⟩ : ∃ w1, w1 = w.alloc (.cells #[.int .i64 id, .bool ab, .slice a os.length c] 66) := ⟨_, rfl⟩
  rw [← hw1]
  have HB1 : Hid (Below w.heap.size w w1) := hide (by rw [hw1]; exact (Below.refl _ _).alloc (Nat.le_refl _) _)
  have HX1 : Hid (Is w1 w.heap.size #[.int .i64 id, .bool ab, .slice a os.length c]) := hide (by rw [hw1]; exact Is.made w _ _ rfl)
  have HH1 := hide (H.out.keep HB1.out)
  clear hw1 H
  go_wp2
  go_loopw [7, 8] (fun ov kv wr => ahR w1 os key n ov kv wr) (fun _ kv _ => n - (intOf kv).toNat)
  case atStart => exact ⟨0, by omega, rfl, World.ownsRow_nil _ _ _ _, Below.refl _ _⟩
  case round =>
    obtain ⟨k, hk, rfl, hown, hbel⟩ := hrel
    obtain ⟨W, hW⟩ : ∃ W, W = wr := ⟨_, rfl⟩
    subst hW
    obtain ⟨oa, oc, rfl⟩ := Own.own_form hown.out
    have x2 : W.cell? ⟨w.heap.size, 2, none⟩ = some (.slice a os.length c) := (HX1.out.below hbel.out).cell 2 rfl
    by_cases hlt : k < n
    · have hlo : k < os.length := by omega
      obtain ⟨b3, o3, l3, q3, rfl, _, _, e0, e1, e2, e3, _, _, _⟩ := (HH1.out.keep hbel.out).at hlo
      have hle := ahead_le (os.take k) key
      rw [List.length_take] at hle
      have HHIT := hide (fun h1 h2 => ahead_hit (key := key) hlo h1 h2)
      have HMISS := hide (fun h1 => ahead_miss (key := key) hlo h1)
      obtain ⟨q, hq⟩ : ∃ q, q = os[k].read := ⟨_, rfl⟩
      obtain ⟨x, hx⟩ : ∃ x, x = os[k].key := ⟨_, rfl⟩
      obtain ⟨y, hy⟩ : ∃ y, y = os[k].value := ⟨_, rfl⟩
      rw [← hq, ← hx] at HHIT HMISS
      rw [← hy] at HHIT
      rw [← hq] at e0
      rw [← hx] at e1
      rw [← hy] at e2
      have hsz := hbel.out.size
      clear hq hx hy e3
      have HR : Hid (aheadL (os.take (k + 1)) key = aheadL (os.take k) key → ahR w1 os key n (.slice oa (aheadL (os.take k) key).length oc) (.int .i64 ((k : Int) + 1)) W) := hide fun e => ⟨k + 1, by omega, by simp, by rw [e]; exact hown, hbel⟩
      have hrow := hown.out
      obtain ⟨m, hm⟩ : ∃ m, m = (aheadL (os.take k) key).length := ⟨_, rfl⟩
      rw [← hm] at HR hrow hle ⊢
      have HM := hide hm
      clear hm hown
      cases q with
      | true =>
        have R := hide (HR.out (HMISS.out (.inl rfl)))
        clear HHIT HMISS HR hrow
        go_wp2
        go_roundw
        case rel => exact R.out
        case measure => simp [intOf]; omega
      | false =>
        by_cases hxk : x = key
        · have HE := hide (HHIT.out rfl hxk)
          clear HHIT HMISS HR
          go_wp2_with (at_builtin; go_loud (refine wpList_append_own _ rfl _ _ 36 rfl w1.heap.size 3 i0 (.int .i64 0) 1 8 Try.underlying36 hi hz0 hz1 hz2 rfl (by decide) _ _ _ rfl (hrow.alloc _) ⟨W.heap.size, 0, none⟩ 1 1 [.int .i64 y] rfl rfl (one_new _ _ _) (by simp [Value.oneCell']) (by unfold maxLen; omega) (by omega) (by simp; omega) ?_); intro v2 w2 hown2 hgrow2 _; have HOWN2 := hide hown2; have HB2 := hide ((hbel.out.alloc hsz (.cells #[.int .i64 y] 3)).grown hgrow2 (by simp; omega) (fun q e => (World.ownsRow.lt hrow q e).1)); clear hown2 hgrow2)
          go_roundw
          case rel => exact ⟨k + 1, by omega, by simp, by have := HOWN2.out; rw [HE.out, List.map_append, List.length_append, ← HM.out]; exact this, HB2⟩
          case measure => simp [intOf]; omega
        · have R := hide (HR.out (HMISS.out (.inr hxk)))
          clear HHIT HMISS HR hrow
          go_wp2
          go_roundw
          case rel => exact R.out
          case measure => simp [intOf]; omega
    · obtain rfl : k = n := by omega
      have hrow := hown.out
      have hle := ahead_le (os.take k) key
      rw [List.length_take] at hle
      have HV := hide (rowv_of_own hrow (by omega) HWFA.out).2
      go_wp2
      go_ret
      exact ⟨⟨oa, oc, rfl, HV.out⟩, HB1.out.trans (hbel.out.mono HB1.out.size)⟩
end Go.Proofs.Ytkinmllflodhaaa.Tab

/- The document's transaction of a number. -/
namespace Go.Proofs.Ytkinmllflodhaaa.Tab
open Go.RowKit Go.Proofs.Ytkinmllflodhaaa.Dig Go.Proofs.Ytkinmllflodhaaa.Mem Go.Proofs.Ytkinmllflodhaaa.Hist Go.Proofs.Ytkinmllflodhaaa.Own Go.Proofs.Ytkinmllflodhaaa.Thing Go.Proofs.Ytkinmllflodhaaa.Sets Go.Shelf Go.Proofs.Ytkinmllflodhaaa.Keys
set_option linter.unusedVariables false
set_option linter.unusedSimpArgs false

theorem docTxn_at {ts : List TxnM} {k : Nat} {id : Int} (h : k < ts.length) (hp : ∀ i, (hi : i < ts.length) → i < k → ts[i].id ≠ id) (he : ts[k].id = id) : docTxn ts id = ts[k] := by
  unfold docTxn
  have : ts.find? (fun t => t.id == id) = some ts[k] := by
    rw [List.find?_eq_some_iff_getElem]
    exact ⟨by simp [he], k, h, rfl, fun j hj => by simp; exact hp j (by omega) hj⟩
  rw [this]
  rfl
theorem docTxn_no {ts : List TxnM} {id : Int} (hp : ∀ i, (hi : i < ts.length) → ts[i].id ≠ id) : docTxn ts id = ⟨id, false, []⟩ := by
  unfold docTxn
  have : ts.find? (fun t => t.id == id) = none := by
    rw [List.find?_eq_none]
    intro t ht
    obtain ⟨i, hi, rfl⟩ := List.getElem_of_mem ht
    simp
    exact hp i hi
  rw [this]
  rfl
def txR (w : World) (hv : Value) (ts : List TxnM) (id : Int) (kv : Value) (wr : World) : Prop :=
  ∃ (k : Nat), k ≤ ts.length ∧ kv = .int .i64 (k : Int) ∧ Hid (∀ i, (hi : i < ts.length) → i < k → ts[i].id ≠ id) ∧ wr = w
set_option maxRecDepth 20000 in
set_option maxHeartbeats 4000000 in
theorem txn_any (F : Nat → Prop) (v : Value) (ts : List TxnM) (id : Int) (w : World) (h : TxnsAt F w v ts) (hid : (Lit.int .i64 id).wf = true) :
    Calls Try.prog 44 #[.agg #[v], .int .i64 id] w fun e w' => ∃ (ov : Value), e = .returned (.agg #[.int .i64 (docTxn ts id).id, .bool (docTxn ts id).ab, ov]) ∧ Hid (OpsAt F w' ov (docTxn ts id).ops) ∧ Hid (Below w.heap.size w w') := by
  obtain ⟨a, c, rfl, hc1, hc2⟩ := h.shape
  unfold maxLen at hc2
  have H : Hid (TxnsAt (fun b => F b ∧ b < w.heap.size) w (.slice a ts.length c) ts) := hide h.lt
  clear h
  go_enter Try.func44, Try.ntmps44
  go_upto_region 1 with fail
  obtain ⟨w1, hw1⟩ : ∃ w1, w1 = w.alloc (.cells #[.slice a ts.length c] 24) := ⟨_, rfl⟩
  rw [← hw1]
  have HB1 : Hid (Below w.heap.size w w1) := hide (by rw [hw1]; exact (Below.refl _ _).alloc (Nat.le_refl _) _)
  have HX1 : Hid (Is w1 w.heap.size #[.slice a ts.length c]) := hide (by rw [hw1]; exact Is.made w _ _ rfl)
  have hsz : w1.heap.size = w.heap.size + 1 := by rw [hw1]; simp
  clear hw1
  obtain ⟨w2, hw2⟩ : ∃ w2, w2 = w1.alloc (.cells #[.int .i64 0, .bool false, .slice none 0 0] 66) := ⟨_, rfl⟩
  have HB2 : Hid (Below w.heap.size w w2) := hide (by rw [hw2]; exact HB1.out.alloc HB1.out.size _)
  have HX2 : Hid (Is w2 w.heap.size #[.slice a ts.length c]) := hide (by rw [hw2]; exact HX1.out.alloc _)
  have HY2 : Hid (Is w2 (w.heap.size + 1) #[.int .i64 0, .bool false, .slice none 0 0]) := hide (by rw [hw2]; exact Is.made w1 _ _ hsz.symm)
  have HH2 := hide (H.out.keep HB2.out)
  have x0 : w2.cell? ⟨w.heap.size, 0, none⟩ = some (.slice a ts.length c) := HX2.out.cell 0 rfl
  have y0 : w2.cell? ⟨w.heap.size + 1, 0, none⟩ = some (.int .i64 0) := HY2.out.cell 0 rfl
  have y1 : w2.cell? ⟨w.heap.size + 1, 1, none⟩ = some (.bool false) := HY2.out.cell 1 rfl
  have y2 : w2.cell? ⟨w.heap.size + 1, 2, none⟩ = some (.slice none 0 0) := HY2.out.cell 2 rfl
  rw [← hw2]
  clear hw2 hsz H
  have z0 := HY2.out.frozen 0
  have z1 := HY2.out.frozen 1
  have z2 := HY2.out.frozen 2
  go_wp2
  go_loopw [5] (fun kv wr => txR w2 (.slice a ts.length c) ts id kv wr) (fun kv _ => ts.length - (intOf kv).toNat)
  case atStart => exact ⟨0, by omega, rfl, hide fun i _ hi => by omega, rfl⟩
  case round =>
    obtain ⟨k, hk, rfl, hne, rfl⟩ := hrel
    by_cases hlt : k < ts.length
    · obtain ⟨b1, o1, l1, q1, rfl, _, hb1, c0, c1, c2, hi1, hwf⟩ := HH2.out.at hlt
      have HO := hide hi1
      have HAT := hide (docTxn_at (id := id) hlt hne.out)
      obtain ⟨x, hx⟩ : ∃ x, x = ts[k].id := ⟨_, rfl⟩
      rw [← hx] at c0
      have HX := hide hx
      clear hi1 hx
      by_cases hxe : x = id
      · have HE := hide (HAT.out (HX.out.symm.trans hxe))
        go_wp2
        have hrow := (((HY2.out.set 0 (.int .i64 id)).set 1 (.bool ts[k].ab)).set 2 (.slice l1 ts[k].ops.length q1)).eq (cs' := #[.int .i64 id, .bool ts[k].ab, .slice l1 ts[k].ops.length q1]) rfl
        have honly := (((Only.refl (fun b => b = w.heap.size + 1) wr).put 0 (.int .i64 id)).put 1 (.bool ts[k].ab)).put 2 (.slice l1 ts[k].ops.length q1)
        have hbel := ((HB2.out.setCell (p := ⟨w.heap.size + 1, 0, none⟩) (by show w.heap.size ≤ w.heap.size + 1; omega) (.int .i64 id)).setCell (p := ⟨w.heap.size + 1, 1, none⟩) (by show w.heap.size ≤ w.heap.size + 1; omega) (.bool ts[k].ab)).setCell (p := ⟨w.heap.size + 1, 2, none⟩) (by show w.heap.size ≤ w.heap.size + 1; omega) (.slice l1 ts[k].ops.length q1)
        obtain ⟨T, hT⟩ := hrow
        refine bodyPost_ret (results_cell_row rfl _ _ (w.heap.size + 1) _ _ _ _ rfl hT Try.underlying66 rfl (by kernel_rfl)) rfl ?_
        rw [HE.out]
        exact ⟨_, by rw [← HX.out, hxe], (HO.out.only honly (fun b q e => by have := q.2; omega)).mono (fun b q => q.1), hbel⟩
      · have R : Hid (txR wr (.slice (some ⟨b1, o1, none⟩) ts.length c) ts id (.int .i64 ((k : Int) + 1)) wr) := ⟨k + 1, by omega, by simp, hide fun i hi hik => by
          by_cases e : i = k
          · subst e; rw [← HX.out]; exact hxe
          · exact hne.out i hi (by omega), rfl⟩
        go_wp2
        go_roundw
        case rel => exact R.out
        case measure => simp [intOf]; omega
    · have HE := hide (docTxn_no (id := id) fun i hi => hne.out i hi (by omega))
      go_wp2
      have hrow := (((HY2.out.set 0 (.int .i64 id)).set 1 (.bool false)).set 2 (.slice none 0 0)).eq (cs' := #[.int .i64 id, .bool false, .slice none 0 0]) rfl
      have honly := (((Only.refl (fun b => b = w.heap.size + 1) wr).put 0 (.int .i64 id)).put 1 (.bool false)).put 2 (.slice none 0 0)
      have hbel := ((HB2.out.setCell (p := ⟨w.heap.size + 1, 0, none⟩) (by show w.heap.size ≤ w.heap.size + 1; omega) (.int .i64 id)).setCell (p := ⟨w.heap.size + 1, 1, none⟩) (by show w.heap.size ≤ w.heap.size + 1; omega) (.bool false)).setCell (p := ⟨w.heap.size + 1, 2, none⟩) (by show w.heap.size ≤ w.heap.size + 1; omega) (.slice none 0 0)
      obtain ⟨T, hT⟩ := hrow
      refine bodyPost_ret (results_cell_row rfl _ _ (w.heap.size + 1) _ _ _ _ rfl hT Try.underlying66 rfl (by kernel_rfl)) rfl ?_
      rw [HE.out]
      exact ⟨_, rfl, OpsAt.nil, hbel⟩
end Go.Proofs.Ytkinmllflodhaaa.Tab

/- The document's Appends. -/
namespace Go.Proofs.Ytkinmllflodhaaa.Tab
open Go.RowKit Go.Proofs.Ytkinmllflodhaaa.Dig Go.Proofs.Ytkinmllflodhaaa.Mem Go.Proofs.Ytkinmllflodhaaa.Hist Go.Proofs.Ytkinmllflodhaaa.Own Go.Proofs.Ytkinmllflodhaaa.Thing Go.Proofs.Ytkinmllflodhaaa.Sets Go.Shelf Go.Proofs.Ytkinmllflodhaaa.Keys
set_option linter.unusedVariables false
set_option linter.unusedSimpArgs false

theorem docTxn_ops (ts : List TxnM) (id : Int) : (docTxn ts id).ops.length ≤ opsN ts := by
  unfold docTxn
  cases h : ts.find? fun t => t.id == id with
  | none => simp
  | some t =>
    obtain ⟨i, hi, rfl⟩ := List.getElem_of_mem (List.mem_of_find?_eq_some h)
    exact ops_le hi
set_option maxRecDepth 20000 in
set_option maxHeartbeats 4000000 in
theorem rapps_any (F : Nat → Prop) (v : Value) (ts : List TxnM) (id key : Int) (w : World) (h : TxnsAt F w v ts) (hid : (Lit.int .i64 id).wf = true) (hops : opsN ts ≤ 1000) :
    Calls Try.prog 21 #[.agg #[v], .int .i64 id, .int .i64 key] w fun e w' => (∃ a c, e = .returned (.slice a (docApps ts id key).length c) ∧ RowV w' a c (docApps ts id key)) ∧ Below w.heap.size w w' := by
  obtain ⟨a, c, rfl, hc1, hc2⟩ := h.shape
  have hB1 : Below w.heap.size w (w.alloc (.cells #[.slice a ts.length c] 24)) := (Below.refl _ _).alloc (Nat.le_refl _) _
  have HB1 := hide hB1
  have CT := hide (txn_any F _ ts id _ (h.keep hB1) hid)
  have hle := docTxn_ops ts id
  obtain ⟨u, hu⟩ : ∃ u, u = docTxn ts id := ⟨_, rfl⟩
  have ED : Hid (docApps ts id key = aheadL u.ops key) := hide (by rw [hu]; rfl)
  rw [← hu] at CT hle
  clear hu h
  obtain ⟨ui, uab, uo⟩ := u
  simp only at CT ED hle
  go_enter Try.func21, Try.ntmps21
  go_wp2_with (first
    | (go_at_call 44; go_must ((with_reducible refine (Hid.out CT).mono ?_); rintro e w2 ⟨ov, rfl, ho, hb2⟩; obtain ⟨oa, oc, rfl, g1, g2⟩ := ho.out.shape; unfold maxLen at g2; have CA := hide (ahead_any F ui uab (.slice oa uo.length oc) uo key uo.length (w2.alloc (.cells #[.int .i64 ui, .bool uab, .slice oa uo.length oc] 66)) (by exact ho.out.keep ((Below.refl _ _).alloc (Nat.le_refl _) _)) (by omega) (by omega))))
    | (go_at_call 45; go_must ((with_reducible refine (Hid.out CA).mono ?_); rintro e w3 ⟨⟨a3, c3, rfl, hv3⟩, hb3⟩)))
  go_ret
  rw [List.take_length] at hv3
  rw [ED.out]
  have hb4 := (HB1.out.trans (hb2.out.mono HB1.out.size))
  have hb5 := hb4.alloc hb4.size (.cells #[.int .i64 ui, .bool uab, .slice oa uo.length oc] 66)
  exact ⟨⟨a3, c3, rfl, hv3⟩, hb5.trans (hb3.mono hb5.size)⟩
end Go.Proofs.Ytkinmllflodhaaa.Tab

/- What goes through a row of appends. -/
namespace Go.Proofs.Ytkinmllflodhaaa.Tab
open Go.Proofs.Ytkinmllflodhaaa.Ro Go.RowKit Go.Proofs.Ytkinmllflodhaaa.Dig Go.Proofs.Ytkinmllflodhaaa.Mem Go.Proofs.Ytkinmllflodhaaa.Hist Go.Proofs.Ytkinmllflodhaaa.Own Go.Proofs.Ytkinmllflodhaaa.Thing Go.Shelf
set_option linter.unusedVariables false
set_option linter.unusedSimpArgs false
attribute [local go_sem] Oper.semAt_some

theorem flat_get5 {α : Type} (f : α → List Value) (hf : ∀ x, (f x).length = 5) : ∀ (l : List α) (k : Nat) (hk : k < l.length) (j : Nat) (u : Value), (f l[k])[j]? = some u → (l.flatMap f)[k * 5 + j]? = some u
  | x :: l, 0, _, j, u, h => by
    rw [List.flatMap_cons, List.getElem?_append_left]
    · simpa using h
    · have := (List.getElem?_eq_some_iff.1 h).1
      simpa using this
  | x :: l, k + 1, hk, j, u, h => by
    rw [List.flatMap_cons, List.getElem?_append_right (by rw [hf]; omega), hf, show (k + 1) * 5 + j - 5 = k * 5 + j by omega]
    exact flat_get5 f hf l k (by simpa using hk) j u (by simpa using h)
theorem wrC_len (m : WrM) : (wrC m).length = 5 := rfl
theorem row5_at {w : World} {a : Option Addr} {ws : List WrM} (h : Row5 w a ws.length (ws.flatMap wrC)) {k : Nat} (hk : k < ws.length) :
    ∃ b off, a = some ⟨b, off, none⟩ ∧ b < w.heap.size ∧ w.cell? ⟨b, off + k * 5, none⟩ = some (.int .i64 ws[k].txn) ∧ w.cell? ⟨b, off + k * 5 + 1, none⟩ = some (.int .i64 (ws[k].op : Int)) ∧
      w.cell? ⟨b, off + k * 5 + 2, none⟩ = some (.int .i64 ws[k].key) ∧ w.cell? ⟨b, off + k * 5 + 3, none⟩ = some (.int .i64 ws[k].value) ∧ w.cell? ⟨b, off + k * 5 + 4, none⟩ = some (.bool ws[k].ab) := by
  have g := fun j u hu => h.2 _ u (flat_get5 wrC wrC_len ws k hk j u hu)
  obtain ⟨b, rfl, c0⟩ := g 0 _ rfl
  have g' : ∀ j u, (wrC ws[k])[j]? = some u → w.cell? ⟨b, 0 + k * 5 + j, none⟩ = some u := fun j u hu => by
    obtain ⟨b', e, c⟩ := g j u hu
    cases e
    rw [Nat.zero_add]
    exact c
  exact ⟨b, 0, rfl, lt_of_cell c0, g' 0 _ rfl, g' 1 _ rfl, g' 2 _ rfl, g' 3 _ rfl, g' 4 _ rfl⟩
theorem Row5.keep {w w' : World} {a : Option Addr} {n : Nat} {xs : List Value} (h : Row5 w a n xs) (hb : Below w.heap.size w w') : Row5 w' a n xs := by
  refine ⟨h.1, fun i u hu => ?_⟩
  obtain ⟨b, e, c⟩ := h.2 i u hu
  exact ⟨b, e, (hb.cell (p := ⟨b, i, none⟩) (lt_of_cell c)).trans c⟩
/-- A list, as far as it has come. -/
def Nxt {α : Type} (l : List α) (pre : List α) (x : α) : Prop := ∃ h : pre.length < l.length, pre = l.take pre.length ∧ x = l[pre.length]
theorem Nxt.at {α : Type} {l : List α} {k : Nat} (h : k < l.length) : Nxt l (l.take k) l[k] := by
  have e : (l.take k).length = k := by rw [List.length_take]; omega
  exact ⟨by rw [e]; exact h, by rw [e], by simp only [e]⟩
theorem Nxt.app {α : Type} {l pre : List α} {x : α} (h : Nxt l pre x) : pre ++ [x] = l.take (pre.length + 1) := by
  obtain ⟨h, e, rfl⟩ := h
  rw [List.take_succ_eq_append_getElem h, ← e]
def wrA (m : WrM) : Array Value := #[.agg #[.int .i64 m.txn, .int .i64 (m.op : Int), .int .i64 m.key, .int .i64 m.value, .bool m.ab]]
set_option maxRecDepth 100000 in
set_option maxHeartbeats 4000000 in
theorem valwc_seq (F : Fence) (n : Nat) (h7 : F.fn 65) (hro : F.round = none) (hn : 1 ≤ n) (Bs : Nat) (a : Option Addr) (cap : Nat) (ws : List WrM) (w0 : World) (h : Row5 w0 a ws.length (ws.flatMap wrC))
    (hts : ws.length ≤ 100000) (hBs : w0.cell? ⟨Bs, 0, none⟩ = some (.slice a ws.length cap)) :
    SeqO F n Try.prog 65 #[.pointer (some ⟨Bs, 0, none⟩)] wrA w0.heap.size (fun pre x _ => Nxt ws pre x) (fun xs => xs = ws) w0 := by
  intro l J Jx W hW hJ _ hY h0
  replace hBs := (hW.cell (p := ⟨Bs, 0, none⟩) (lt_of_cell hBs)).trans hBs
  obtain ⟨n₀, hn0⟩ : ∃ n₀, n₀ = w0.heap.size := ⟨_, rfl⟩
  rw [← hn0] at hW hY
  show CallsIn F n Try.prog 65 #[.func (.yield l) #[] #[], .pointer (some ⟨Bs, 0, none⟩)] W fun e W' => (∃ v, e = .returned v) ∧ ((∃ xs, xs = ws ∧ J xs W') ∨ (∃ pre, Jx pre W'))
  have HH := hide h
  have HJ := hide hJ
  have HY := hide hY
  have HN0 := hide hn0
  refine callsIn_of_wp Try.func65 rfl h7 ?_ hro
  simp only [Try.ntmps65, List.size_toArray, List.length_cons, List.length_nil, Nat.reduceAdd, Nat.reduceSub, Array.replicate_succ, Array.replicate_zero, List.push_toArray, List.append_toArray, List.nil_append, List.cons_append]
  obtain ⟨m, hm⟩ : ∃ m, m = ws.length := ⟨_, rfl⟩
  rw [← hm] at hBs hts
  have HM := hide hm
  clear h hJ hY hn0 hm
  gi_wp2
  gi_loopw [7] (fun i wr => ∃ (k : Nat), k ≤ m ∧ i = .int .i64 k ∧ Hid (J (ws.take k) wr ∧ Below n₀ w0 wr))
    (fun i _ => m - (intOf i).toNat)
  case atStart => exact ⟨0, Nat.zero_le _, rfl, h0, hW⟩
  case round =>
    obtain ⟨k, hk, rfl, hR⟩ := hrel
    by_cases hlt : k < m
    · have hlt' : k < ws.length := by rw [← HM.out]; exact hlt
      obtain ⟨b, off, rfl, hbl, c0, c1, c2, c3, c4⟩ := row5_at HH.out hlt'
      have hb0 : b < n₀ := by rw [HN0.out]; exact hbl
      have kp : ∀ {g i : Nat} {u : Value}, g < n₀ → w0.cell? ⟨g, i, none⟩ = some u → wr.cell? ⟨g, i, none⟩ = some u := fun hg hc => (hR.out.2.cell (p := ⟨_, _, none⟩) hg).trans hc
      have d0 := kp hb0 c0
      have d1 := kp hb0 c1
      have d2 := kp hb0 c2
      have d3 := kp hb0 c3
      have d4 := kp hb0 c4
      obtain ⟨fn, tmps, assign, body, hy, hR3⟩ := HY.out (ws.take k) ws[k] (wr.alloc (.cells #[.int .i64 ws[k].txn, .int .i64 (ws[k].op : Int), .int .i64 ws[k].key, .int .i64 ws[k].value, .bool ws[k].ab] 41)) (HJ.out.alloc _ hR.out.1) (Nxt.at hlt')
      rw [(Nxt.at hlt').app, show (ws.take k).length = k by rw [List.length_take]; omega] at hR3
      unfold wrA at hy
      have hwr : n₀ ≤ wr.heap.size := by have := hR.out.2.size; have := HN0.out; omega
      have HB2 := hide (show Below n₀ w0 (wr.alloc (.cells #[.int .i64 ws[k].txn, .int .i64 (ws[k].op : Int), .int .i64 ws[k].key, .int .i64 ws[k].value, .bool ws[k].ab] 41)) from hR.out.2.alloc hwr _)
      obtain ⟨x0, hx0⟩ : ∃ x, x = ws[k].txn := ⟨_, rfl⟩
      obtain ⟨x1, hx1⟩ : ∃ x, x = (ws[k].op : Int) := ⟨_, rfl⟩
      obtain ⟨x2, hx2⟩ : ∃ x, x = ws[k].key := ⟨_, rfl⟩
      obtain ⟨x3, hx3⟩ : ∃ x, x = ws[k].value := ⟨_, rfl⟩
      obtain ⟨x4, hx4⟩ : ∃ x, x = ws[k].ab := ⟨_, rfl⟩
      rw [← hx0, ← hx1, ← hx2, ← hx3, ← hx4] at hy hR3 HB2
      rw [← hx0] at d0
      rw [← hx1] at d1
      rw [← hx2] at d2
      rw [← hx3] at d3
      rw [← hx4] at d4
      clear hx0 hx1 hx2 hx3 hx4 c0 c1 c2 c3 c4 hb0 kp hbl hR
      gi_wp2
      refine hR3.mono ?_
      rintro e W3 (⟨rfl, hJ3, hk3⟩ | ⟨rfl, hJx3⟩)
      · gi_wp2
        go_roundw
        case rel => exact ⟨k + 1, by omega, by simp, hJ3, HB2.out.trans hk3⟩
        case measure => simp [intOf]; omega
      · gi_wp2
        refine bodyPost_ret (results_none rfl _ _ _) rfl ?_
        exact ⟨⟨_, rfl⟩, .inr ⟨_, hJx3⟩⟩
    · obtain rfl : k = m := by omega
      gi_wp2
      go_end0
      refine ⟨⟨_, rfl⟩, .inl ⟨ws, rfl, ?_⟩⟩
      have := hR.out.1
      rwa [HM.out, List.take_length] at this
end Go.Proofs.Ytkinmllflodhaaa.Tab
