/- Joined out of the texts Last, PoolRefAdd, PoolRefSteal2, in that order. -/
import Derived.WalkKit
import Derived.Deep.RegionHeld3
import Derived.Test.YtkjhamcmhijhgaaGreatAll15
/- A region that draws its order, whose last operation waits for all others: it may be split off, so that what is held of the world need not outlast it. -/
namespace Go.Proofs.YtkjhamcmhijhgaaGreat.Last
open Go
set_option linter.unusedVariables false

section
variable {P : Program} {md : Region.Mode} {ops : Array Oper} {Q : Exit → Act → World → Prop} {S : World → Prop}
/-- What an operation comes to hangs on how the rest goes on, and on what is asked where it does not. -/
theorem upon_then {o : Oper} {a : Act} {next K K' : Act → World → Prop} (h : ∀ a w, K a w → K' a w) : ∀ {r : Result Next}, o.upon P a K (Exit.then next Q) r → o.upon P a K' Q r
  | .ok (.value v) w', hh => h _ _ hh
  | .ok .skip w', hh => h _ _ hh
  | .ok (.defer d) w', hh => h _ _ hh
  | .ok (.enter f args) w', hh => Calls.mono hh fun e w'' he => match e, he with
    | .returned v, he => h _ _ he
    | .panicked c, he => he
    | .outgrown, he => he
  | .ok (.row row args) w', hh => Rows.mono hh fun _ _ he => h _ _ he
  | .halt x w', hh => by cases x <;> first | exact hh | exact hh.elim
theorem wpOp_then {i : Nat} {a : Act} {w : World} {next K K' : Act → World → Prop} (h : ∀ a w, K a w → K' a w) (hh : wpOp P ops (Exit.then next Q) i K a w) : wpOp P ops Q i K' a w := by
  unfold wpOp at *
  cases ho : ops[i]? with
  | none => rw [ho] at hh; exact h _ _ hh
  | some o =>
    rw [ho] at hh
    simp only at hh ⊢
    split
    · rename_i hw
      rw [if_pos hw] at hh
      exact hh.imp (upon_then h) id
    · rename_i hw
      rw [if_neg hw] at hh
      exact h _ _ hh
theorem all_listed {listed : Array Bool} (hlt : ∀ i o, ops[i]? = some o → ∀ e ∈ o.after, Region.binds md e = true → e.on < i) (h : Region.ready md ops listed = []) : ∀ n i, i < n → i < ops.size → listed.getD i true = true
  | 0, i, hi, _ => by omega
  | n + 1, i, hi, hs => by
    cases hq : listed.getD i true with
    | true => rfl
    | false =>
      exfalso
      have : i ∈ Region.ready md ops listed := mem_ready.2 ⟨hq, ops[i], Array.getElem?_eq_getElem hs, fun e he hb => by
        have hl := hlt i _ (Array.getElem?_eq_getElem hs) e he hb
        have := all_listed hlt h n e.on (by omega) (by omega)
        rw [Array.getD_eq_getD_getElem?] at this ⊢
        cases hx : listed[e.on]? with
        | some b => rw [hx] at this; exact this
        | none =>
          exfalso
          have h1 : listed.size ≤ e.on := by
            rcases Nat.lt_or_ge e.on listed.size with q | q
            · rw [Array.getElem?_eq_getElem q] at hx; cases hx
            · exact q
          rw [Array.getD_eq_getD_getElem?, Array.getElem?_eq_none (by omega)] at hq
          cases hq⟩
      rw [h] at this
      cases this
theorem getD_true {listed : Array Bool} {i : Nat} (hi : i < listed.size) (h : listed.getD i true = true) : listed.getD i false = true := by
  rw [Array.getD_eq_getD_getElem?, Array.getElem?_eq_getElem hi] at *
  exact h
/-- Whoever is listed, those that it waits for are, too. -/
def Closed (md : Region.Mode) (ops : Array Oper) (listed : Array Bool) : Prop := ∀ i o, ops[i]? = some o → listed.getD i false = true → ∀ e ∈ o.after, Region.binds md e = true → listed.getD e.on false = true
theorem getD_set_le {listed : Array Bool} {i j : Nat} (h : listed.getD j false = true) : (listed.setIfInBounds i true).getD j false = true := by
  by_cases e : i = j
  · subst e
    rw [Array.getD_eq_getD_getElem?] at *
    have hl : i < listed.size := by
      rcases Nat.lt_or_ge i listed.size with q | q
      · exact q
      · rw [Array.getElem?_eq_none q] at h; cases h
    rw [Array.getElem?_setIfInBounds_self_of_lt hl]
    rfl
  · rw [Array.getD_eq_getD_getElem?, Array.getElem?_setIfInBounds_ne e, ← Array.getD_eq_getD_getElem?]
    exact h
theorem Closed.step {listed : Array Bool} {i : Nat} (h : Closed md ops listed) (hi : i ∈ Region.ready md ops listed) : Closed md ops (listed.setIfInBounds i true) := by
  intro j o ho hj e he hb
  obtain ⟨_, oi, hoi, hall⟩ := mem_ready.1 hi
  by_cases q : i = j
  · subst q
    rw [ho] at hoi
    obtain rfl := Option.some.inj hoi
    exact getD_set_le (hall e he hb)
  · rw [Array.getD_eq_getD_getElem?, Array.getElem?_setIfInBounds_ne q, ← Array.getD_eq_getD_getElem?] at hj
    exact getD_set_le (h j o ho hj e he hb)
theorem below_listed {listed : Array Bool} {k : Nat} {ok : Oper} (hk : ops[k]? = some ok) (hc : Closed md ops listed) (hkr : ∀ e ∈ ok.after, Region.binds md e = true → listed.getD e.on false = true)
    (hw : ∀ j, j < k → ∃ i o, i ≤ k ∧ ops[i]? = some o ∧ ∃ e ∈ o.after, Region.binds md e = true ∧ e.on = j) (hlt : ∀ i o, ops[i]? = some o → ∀ e ∈ o.after, Region.binds md e = true → e.on < i) : ∀ n j, k ≤ j + n → j < k → listed.getD j false = true
  | 0, j, h, hj => by omega
  | n + 1, j, h, hj => by
    obtain ⟨i, o, hi, ho, e, he, hb, hon⟩ := hw j hj
    have hji := hlt i o ho e he hb
    rcases Nat.eq_or_lt_of_le hi with q | q
    · subst q
      rw [hk] at ho
      obtain rfl := Option.some.inj ho
      rw [← hon]
      exact hkr e he hb
    · rw [← hon]
      exact hc i o ho (below_listed hk hc hkr hw hlt n i (by omega) q) e he hb
/-- The last one is split off. -/
theorem wpAny_last {k : Nat} {ok : Oper} (hs : k + 1 = ops.size) (hk : ops[k]? = some ok) (hw : ∀ j, j < k → ∃ i o, i ≤ k ∧ ops[i]? = some o ∧ ∃ e ∈ o.after, Region.binds md e = true ∧ e.on = j) (hlt : ∀ i o, ops[i]? = some o → ∀ e ∈ o.after, Region.binds md e = true → e.on < i) :
    ∀ (fuel : Nat) (listed : Array Bool) (a : Act) (w : World), listed.size = ops.size → Closed md ops listed → listed.getD k true = false →
      wpAnyH P md ops (Exit.then (fun a w => wpOp P ops Q k (Q .normal) a w) Q) S fuel (listed.setIfInBounds k true) a w → wpAny P md ops Q (fuel + 1) listed a w := by
  have hne : ∀ {j : Nat} {l : Array Bool}, j ∈ Region.ready md ops (l.setIfInBounds k true) → l.size = ops.size → j ≠ k := by
    intro j l hj hl q
    subst q
    have := (mem_ready.1 hj).1
    rw [Array.getD_eq_getD_getElem?, Array.getElem?_setIfInBounds_self_of_lt (by omega)] at this
    cases this
  have hback : ∀ {j : Nat} {l : Array Bool}, j ∈ Region.ready md ops (l.setIfInBounds k true) → l.size = ops.size → j ∈ Region.ready md ops l := by
    intro j l hj hl
    have hjk := hne hj hl
    obtain ⟨h1, o, h2, h3⟩ := mem_ready.1 hj
    have hjs : j < ops.size := by
      rcases Nat.lt_or_ge j ops.size with q | q
      · exact q
      · rw [Array.getElem?_eq_none q] at h2; cases h2
    refine mem_ready.2 ⟨by rw [Array.getD_eq_getD_getElem?, Array.getElem?_setIfInBounds_ne (Ne.symm hjk)] at h1; rw [Array.getD_eq_getD_getElem?]; exact h1, o, h2, fun e he hb => ?_⟩
    have h4 := h3 e he hb
    have h5 := hlt j o h2 e he hb
    rw [Array.getD_eq_getD_getElem?, Array.getElem?_setIfInBounds_ne (by omega)] at h4
    rw [Array.getD_eq_getD_getElem?]
    exact h4
  -- where nothing but the last one is left
  have hend : ∀ (fuel : Nat) (l : Array Bool) (a : Act) (w : World), Region.ready md ops (l.setIfInBounds k true) = [] → wpAnyH P md ops (Exit.then (fun a w => wpOp P ops Q k (Q .normal) a w) Q) S fuel (l.setIfInBounds k true) a w → wpOp P ops Q k (Q .normal) a w := by
    intro fuel l a w h0 H
    cases fuel with
    | zero => exact H.2
    | succ f => exact H.1 h0
  have hdone : ∀ (fuel : Nat) (l : Array Bool) (a : Act) (w : World), Region.ready md ops l = [] → Q .normal a w → wpAny P md ops Q fuel l a w := by
    intro fuel l a w h0 hq
    cases fuel with
    | zero => exact ⟨h0, hq⟩
    | succ f => exact ⟨fun _ => hq, by rw [h0]; simp⟩
  intro fuel
  induction fuel with
  | zero =>
    intro listed a w hls hcl hun H
    have h0 : Region.ready md ops (listed.setIfInBounds k true) = [] := H.1
    have hall := all_listed hlt h0 ops.size
    have hkr : k ∈ Region.ready md ops listed := mem_ready.2 ⟨hun, ok, hk, fun e he hb => by
      have h5 := hlt k ok hk e he hb
      have := hall e.on (by omega) (by omega)
      rw [Array.getD_eq_getD_getElem?, Array.getElem?_setIfInBounds_ne (by omega), ← Array.getD_eq_getD_getElem?] at this
      exact getD_true (by omega) this⟩
    refine ⟨fun q => (by rw [q] at hkr; cases hkr), fun i hi => ?_⟩
    by_cases hik : i = k
    · subst hik
      exact wpOp_mono (fun a w hq => hdone 0 _ a w h0 hq) (hend 0 listed a w h0 H)
    · have := ready_mono hi hik
      rw [h0] at this
      cases this
  | succ f ih =>
    intro listed a w hls hcl hun H
    by_cases h0 : Region.ready md ops (listed.setIfInBounds k true) = []
    · have hall := all_listed hlt h0 ops.size
      have hkr : k ∈ Region.ready md ops listed := mem_ready.2 ⟨hun, ok, hk, fun e he hb => by
        have h5 := hlt k ok hk e he hb
        have := hall e.on (by omega) (by omega)
        rw [Array.getD_eq_getD_getElem?, Array.getElem?_setIfInBounds_ne (by omega), ← Array.getD_eq_getD_getElem?] at this
        exact getD_true (by omega) this⟩
      refine ⟨fun q => (by rw [q] at hkr; cases hkr), fun i hi => ?_⟩
      by_cases hik : i = k
      · subst hik
        exact wpOp_mono (fun a w hq => hdone _ _ a w h0 hq) (hend _ listed a w h0 H)
      · have := ready_mono hi hik
        rw [h0] at this
        cases this
    · obtain ⟨j, hj⟩ := List.exists_mem_of_ne_nil _ h0
      have hjl := hback hj hls
      refine ⟨fun q => (by rw [q] at hjl; cases hjl), fun i hi => ?_⟩
      by_cases hik : i = k
      · exfalso
        subst hik
        obtain ⟨_, o, ho, hall⟩ := mem_ready.1 hi
        have hjk := hne hj hls
        obtain ⟨hj1, oj, hoj, _⟩ := mem_ready.1 hjl
        have hjs : j < ops.size := by
          rcases Nat.lt_or_ge j ops.size with q | q
          · exact q
          · rw [Array.getElem?_eq_none q] at hoj; cases hoj
        rw [hk] at ho
        obtain rfl := Option.some.inj ho
        have := below_listed hk hcl hall hw hlt i j (by omega) (by omega)
        rw [Array.getD_eq_getD_getElem?, Array.getElem?_eq_getElem (by omega)] at this hj1
        simp only [Option.getD_some] at this hj1
        rw [this] at hj1
        cases hj1
      · refine wpOp_then (fun a' w' h => ?_) (H.2 i (ready_mono hi hik))
        refine ih (listed.setIfInBounds i true) a' w' (by simpa using hls) (hcl.step hi) ?_ ?_
        · rw [Array.getD_eq_getD_getElem?, Array.getElem?_setIfInBounds_ne hik, ← Array.getD_eq_getD_getElem?]; exact hun
        · rw [Array.setIfInBounds_comm _ _ hik]
          exact h.2
theorem done_last {k : Nat} {a : Act} {w : World} (h : wpOp P ops Q k (Q .normal) a w) : Exit.then (fun a w => wpOp P ops Q k (Q .normal) a w) Q .normal a w := h
/-- The beginning. -/
theorem region_last {id k : Nat} {ok : Oper} {a : Act} {w : World} (hm : P.follows .mixedOrders = true) (hs : k + 1 = ops.size) (hk : ops[k]? = some ok) (hw : (List.range k).all (fun j => (List.range (k + 1)).any fun i => match ops[i]? with | none => false | some o => o.after.any fun e => Region.binds .any e && e.on == j) = true)
    (hlt : (List.range ops.size).all (fun i => match ops[i]? with | none => true | some o => o.after.all fun e => !Region.binds .any e || decide (e.on < i)) = true)
    (h : wpAnyH P .any ops (Exit.then (fun a w => wpOp P ops Q k (Q .normal) a w) Q) S k ((Array.replicate ops.size false).setIfInBounds k true) a w.drew) : (Code.region id ops true).wp P Q a w := by
  refine wp_region_any hm ?_
  rw [← hs]
  refine wpAny_last hs hk (fun i hi => ?_) (fun i o ho e he hb => ?_) k _ a _ (by simpa using hs) (fun i o ho hi => by rw [Array.getD_eq_getD_getElem?, Array.getElem?_replicate] at hi; split at hi <;> cases hi) (by rw [Array.getD_eq_getD_getElem?, Array.getElem?_replicate, if_pos (by omega)]; rfl) (by rw [← hs] at h; exact h)
  · have := List.all_eq_true.1 hw i (List.mem_range.2 hi)
    obtain ⟨n, hn, q⟩ := List.any_eq_true.1 this
    have hn' := List.mem_range.1 hn
    cases ho : ops[n]? with
    | none => rw [ho] at q; cases q
    | some o =>
      rw [ho] at q
      obtain ⟨m, hm, q⟩ := Array.any_eq_true.1 q
      simp at q
      exact ⟨n, o, by omega, ho, o.after[m], Array.getElem_mem hm, q.1, q.2⟩
  · have hi : i < ops.size := by
      rcases Nat.lt_or_ge i ops.size with q | q
      · exact q
      · rw [Array.getElem?_eq_none q] at ho; cases ho
    have := List.all_eq_true.1 hlt i (List.mem_range.2 hi)
    rw [ho] at this
    obtain ⟨j, hj, rfl⟩ := Array.mem_iff_getElem.1 he
    have := Array.all_eq_true.1 this j hj
    simp [hb] at this
    exact this
end
end Go.Proofs.YtkjhamcmhijhgaaGreat.Last

/- The document's Add. -/
namespace Go.Proofs.YtkjhamcmhijhgaaGreat.PRef
open Go.RowKit Go.Proofs.YtkjhamcmhijhgaaGreat.Dig Go.Proofs.YtkjhamcmhijhgaaGreat.Mem Go.Proofs.YtkjhamcmhijhgaaGreat.Dq Go.Proofs.YtkjhamcmhijhgaaGreat.Thing Go.Proofs.YtkjhamcmhijhgaaGreat.Pick Go.Proofs.YtkjhamcmhijhgaaGreat.Sets Go.Proofs.YtkjhamcmhijhgaaGreat.Pool
set_option linter.unusedVariables false
set_option linter.unusedSimpArgs false

abbrev z11 : Array Value := #[.slice none 0 0, .int .i64 0, .int .i64 0, .int .i64 0, .slice none 0 0, .slice none 0 0, .slice none 0 0, .slice none 0 0, .int .i64 0, .int .i64 0, .slice none 0 0]
def AddR (A : Nat → Prop) (w : World) (bp br : Nat) (L : List Int) (c : Int) (n : Nat) (s : PS Int) (l : List Int) (kv : Value) (wr : World) : Prop := ∃ (k : Nat) (v : RV), k ≤ l.length ∧ kv = .int .i64 (k : Int) ∧ Hid (PB A w bp br z11 [] v L c n (addL s (l.take k)) wr)
theorem sum_one_row {ks : List (W1 Int)} {k : Nat} {κ : W1 Int} (h : ks[k]? = some κ) : κ.l.length ≤ sumL (fun _ => 1) ks := by
  have h1 := sum_get (fun κ : W1 Int => (κ.l.map fun _ => 1).sum + (if κ.h = true then 1 else 0)) ks k κ h
  have h2 : ∀ d : List Int, (d.map fun _ => 1).sum = d.length := fun d => by
    induction d with
    | nil => rfl
    | cons x d ih => simp only [List.map_cons, List.sum_cons, List.length_cons, ih]; omega
  have h3 : sumL (fun _ => 1) ks = (ks.map fun κ : W1 Int => (κ.l.map fun _ => 1).sum + (if κ.h = true then 1 else 0)).sum := rfl
  rw [h3]
  simp only [h2] at h1 ⊢
  omega
set_option maxRecDepth 20000 in
set_option maxHeartbeats 4000000 in
theorem radd_any {A : Nat → Prop} {w : World} {v : RV} {L : List Int} {c : Int} {n : Nat} {s : PS Int} (h : Hid (RPA A w v L c n s)) (hA : ∀ k, A k → k < w.heap.size) (hnx : s.nx < s.ks.length) (h64 : s.ks.length ≤ 64) (hsum : sumL (fun _ => 1) s.ks ≤ 50000) {a : Option Addr} {m cp : Nat} {l : List Int} (hm : m = l.length) (hm2 : m ≤ 1000) (hl : RowI w a cp l) :
    Calls Tryz.prog 13 #[.agg #[.slice v.l.a v.l.n v.l.c, .int .i64 v.c, .int .i64 (v.n : Int), .int .i64 (v.u : Int), .slice v.rows.a v.rows.n v.rows.c, .slice v.held.a v.held.n v.held.c, .slice v.holds.a v.holds.n v.holds.c, .slice v.done.a v.done.n v.done.c, .int .i64 (v.st : Int), .int .i64 (v.nx : Int), .slice v.who.a v.who.n v.who.c], .slice a m cp] w fun e w' => ∃ v', e = .returned (.agg #[.slice v'.l.a v'.l.n v'.l.c, .int .i64 v'.c, .int .i64 (v'.n : Int), .int .i64 (v'.u : Int), .slice v'.rows.a v'.rows.n v'.rows.c, .slice v'.held.a v'.held.n v'.held.c, .slice v'.holds.a v'.holds.n v'.holds.c, .slice v'.done.a v'.done.n v'.done.c, .int .i64 (v'.st : Int), .int .i64 (v'.nx : Int), .slice v'.who.a v'.who.n v'.who.c]) ∧ Hid (RPA A w' v' L c n (addL s l)) ∧ Below w.heap.size w w' := by
  have HA := hide hA
  have HL := hide hl
  have HM := hide hm
  have P0 : Hid (AddR A w w.heap.size (w.heap.size + 1) L c n s l (.int .i64 0) ((w.alloc (.cells #[.slice v.l.a v.l.n v.l.c, .int .i64 v.c, .int .i64 (v.n : Int), .int .i64 (v.u : Int), .slice v.rows.a v.rows.n v.rows.c, .slice v.held.a v.held.n v.held.c, .slice v.holds.a v.holds.n v.holds.c, .slice v.done.a v.done.n v.done.c, .int .i64 (v.st : Int), .int .i64 (v.nx : Int), .slice v.who.a v.who.n v.who.c] 36)).alloc (.cells z11 36))) := hide ⟨0, v, Nat.zero_le _, rfl, hide (PB.start h.out hA z11 rfl)⟩
  unfold z11 at P0
  have HST : Hid (∀ k, k ≤ l.length → (addL s (l.take k)).nx < s.ks.length ∧ (addL s (l.take k)).ks.length = s.ks.length ∧ sumL (fun _ => 1) (addL s (l.take k)).ks ≤ 51000) := hide (fun k hk => by
    have q := addL_sum (fun _ : Int => 1) (l.take k) hnx
    have e : ((l.take k).map fun _ => 1).sum ≤ 1000 := by
      have h2 : ∀ d : List Int, (d.map fun _ => 1).sum = d.length := fun d => by
        induction d with
        | nil => rfl
        | cons x d ih => simp only [List.map_cons, List.sum_cons, List.length_cons, ih]; omega
      rw [h2, List.length_take]; omega
    exact ⟨q.2.2.1, q.2.1, by omega⟩)
  have HADD : Hid (∀ k (hk : k < l.length), addL s (l.take (k + 1)) = addS (addL s (l.take k)) (l.getD k 0)) := hide (fun k hk => by
    rw [List.take_add_one, List.getElem?_eq_getElem hk]
    show addL s (l.take k ++ [l[k]]) = _
    unfold addL
    rw [List.foldl_append]
    simp [List.getD_eq_getElem?_getD, hk])
  have H64 := hide h64
  clear h hA hl hm hnx h64 hsum
  go_enter Tryz.func13, Tryz.ntmps13
  go_wp2
  obtain ⟨bp, hbp⟩ : ∃ bp, bp = w.heap.size := ⟨_, rfl⟩
  obtain ⟨br, hbr⟩ : ∃ br, br = w.heap.size + 1 := ⟨_, rfl⟩
  rw [← hbr, ← hbp] at P0
  rw [← hbr, ← hbp]
  generalize ((w.alloc (.cells #[.slice v.l.a v.l.n v.l.c, .int .i64 v.c, .int .i64 (v.n : Int), .int .i64 (v.u : Int), .slice v.rows.a v.rows.n v.rows.c, .slice v.held.a v.held.n v.held.c, .slice v.holds.a v.holds.n v.holds.c, .slice v.done.a v.done.n v.done.c, .int .i64 (v.st : Int), .int .i64 (v.nx : Int), .slice v.who.a v.who.n v.who.c] 36)).alloc (.cells #[.slice none 0 0, .int .i64 0, .int .i64 0, .int .i64 0, .slice none 0 0, .slice none 0 0, .slice none 0 0, .slice none 0 0, .int .i64 0, .int .i64 0, .slice none 0 0] 36)) = W0 at *
  clear hbp hbr
  go_loopw [5] (fun kv wr => AddR A w bp br L c n s l kv wr) (fun kv _ => m - (intOf kv).toNat)
  case atStart => exact P0.out
  case round =>
    obtain ⟨k, v1, hk, rfl, hP⟩ := hrel
    clear P0
    by_cases hlt : k < m
    · have hkl : k < l.length := by rw [← HM.out]; exact hlt
      obtain ⟨st1, st2, st3⟩ := HST.out k hk
      obtain ⟨s1, hs1⟩ : ∃ s1, s1 = addL s (l.take k) := ⟨_, rfl⟩
      rw [← hs1] at hP st1 st2 st3
      have hnx1 : s1.nx < s1.ks.length := by rw [st2]; exact st1
      obtain ⟨κ, hκ⟩ : ∃ κ, s1.ks[s1.nx]? = some κ := ⟨s1.ks[s1.nx], List.getElem?_eq_getElem hnx1⟩
      obtain ⟨x, hx⟩ : ∃ x, x = l.getD k 0 := ⟨_, rfl⟩
      have hwfx : (Lit.int .i64 x).wf = true := HL.out.wf x (by rw [hx, List.getD_eq_getElem?_getD, List.getElem?_eq_getElem hkl]; exact List.getElem_mem _)
      obtain ⟨b, off, rfl, hcl⟩ := HL.out.at (i := k) hkl
      rw [← hx] at hcl
      have hbw : b < w.heap.size := lt_of_cell hcl
      have HX : Hid (∀ W, Below w.heap.size w W → W.cell? ⟨b, off + k, none⟩ = some (.int .i64 x)) := hide (fun W ho => (ho.cell (p := ⟨b, off + k, none⟩) hbw).trans hcl)
      have hv1 : v1.nx = s1.nx := hP.out.rp.rp.num.2
      have CP : Hid (Calls Tryz.prog 39 #[.agg #[.slice v1.l.a v1.l.n v1.l.c, .int .i64 v1.c, .int .i64 (v1.n : Int), .int .i64 (v1.u : Int), .slice v1.rows.a v1.rows.n v1.rows.c, .slice v1.held.a v1.held.n v1.held.c, .slice v1.holds.a v1.holds.n v1.holds.c, .slice v1.done.a v1.done.n v1.done.c, .int .i64 (v1.st : Int), .int .i64 (v1.nx : Int), .slice v1.who.a v1.who.n v1.who.c], .int .i64 (v1.nx : Int), .int .i64 x] wr.drew fun e w' => ∃ v', e = .returned (.agg #[.slice v'.l.a v'.l.n v'.l.c, .int .i64 v'.c, .int .i64 (v'.n : Int), .int .i64 (v'.u : Int), .slice v'.rows.a v'.rows.n v'.rows.c, .slice v'.held.a v'.held.n v'.held.c, .slice v'.holds.a v'.holds.n v'.holds.c, .slice v'.done.a v'.done.n v'.done.c, .int .i64 (v'.st : Int), .int .i64 (v'.nx : Int), .slice v'.who.a v'.who.n v'.who.c]) ∧ Hid (RPA (PA A bp br) w' v' L c n { s1 with ks := s1.ks.set v1.nx { κ with l := κ.l ++ [x] } }) ∧ Below wr.drew.heap.size wr.drew w') := hide (push_any (hide (hP.out.rp.keep ((Below.refl _ _).drew))) (fun k q => (hP.out.lt HA.out k q)) (by rw [hv1]; exact hκ) hwfx (by have := sum_one_row hκ; omega) (by rw [st2]; exact H64.out))
      obtain ⟨⟨p0, p1, p2, p3, p4, p5, p6, p7, p8, p9, p10⟩, pf⟩ := hP.out.kn.hd.eleven
      have hcx := HX.out wr hP.out.kn.below
      have hki : (k : Int) < m := by omega
      have hheld : (fun w' : World => (w'.cell? ⟨bp, 0, none⟩ = some (.slice v1.l.a v1.l.n v1.l.c) ∧ w'.cell? ⟨bp, 1, none⟩ = some (.int .i64 v1.c) ∧ w'.cell? ⟨bp, 2, none⟩ = some (.int .i64 (v1.n : Int)) ∧ w'.cell? ⟨bp, 3, none⟩ = some (.int .i64 (v1.u : Int)) ∧ w'.cell? ⟨bp, 4, none⟩ = some (.slice v1.rows.a v1.rows.n v1.rows.c) ∧ w'.cell? ⟨bp, 5, none⟩ = some (.slice v1.held.a v1.held.n v1.held.c) ∧ w'.cell? ⟨bp, 6, none⟩ = some (.slice v1.holds.a v1.holds.n v1.holds.c) ∧ w'.cell? ⟨bp, 7, none⟩ = some (.slice v1.done.a v1.done.n v1.done.c) ∧ w'.cell? ⟨bp, 8, none⟩ = some (.int .i64 (v1.st : Int)) ∧ w'.cell? ⟨bp, 9, none⟩ = some (.int .i64 (v1.nx : Int)) ∧ w'.cell? ⟨bp, 10, none⟩ = some (.slice v1.who.a v1.who.n v1.who.c)) ∧ w'.cell? ⟨b, off + k, none⟩ = some (.int .i64 x)) wr.drew := ⟨⟨p0, p1, p2, p3, p4, p5, p6, p7, p8, p9, p10⟩, hcx⟩
      have PD : Hid (PB A w bp br z11 [] v1 L c n s1 wr.drew) := hide (hP.out.keep ((Below.refl _ _).drew))
      have HK : Hid (s1.ks[s1.nx]? = some κ) := hκ
      have HS1 := hide hs1
      have HX1 := hide hx
      have HKL := hide hkl
      have HN1 := hide hnx1
      have HS2 := hide st2
      have HV1 := hide hv1
      clear hκ hs1 hx hkl hP pf hbw hcl hwfx st1 st2 st3 hnx1 hv1
      go_wp2
      refine Last.region_last (k := 8) (S := fun w' : World => (w'.cell? ⟨bp, 0, none⟩ = some (.slice v1.l.a v1.l.n v1.l.c) ∧ w'.cell? ⟨bp, 1, none⟩ = some (.int .i64 v1.c) ∧ w'.cell? ⟨bp, 2, none⟩ = some (.int .i64 (v1.n : Int)) ∧ w'.cell? ⟨bp, 3, none⟩ = some (.int .i64 (v1.u : Int)) ∧ w'.cell? ⟨bp, 4, none⟩ = some (.slice v1.rows.a v1.rows.n v1.rows.c) ∧ w'.cell? ⟨bp, 5, none⟩ = some (.slice v1.held.a v1.held.n v1.held.c) ∧ w'.cell? ⟨bp, 6, none⟩ = some (.slice v1.holds.a v1.holds.n v1.holds.c) ∧ w'.cell? ⟨bp, 7, none⟩ = some (.slice v1.done.a v1.done.n v1.done.c) ∧ w'.cell? ⟨bp, 8, none⟩ = some (.int .i64 (v1.st : Int)) ∧ w'.cell? ⟨bp, 9, none⟩ = some (.int .i64 (v1.nx : Int)) ∧ w'.cell? ⟨bp, 10, none⟩ = some (.slice v1.who.a v1.who.n v1.who.c)) ∧ w'.cell? ⟨b, off + k, none⟩ = some (.int .i64 x)) (by kernel_rfl) rfl rfl (by kernel_rfl) (by kernel_rfl) ?_
      refine wpAnyH_take (i := 0) (v := ?_) rfl (by kernel_rfl) (by kernel_rfl) (by kernel_rfl) (fun _ _ _ h => h) (Or.inl ⟨by rfl, ?_⟩) (by assumption) ?_
      rotate_left
      · (intro w hSw; (try dsimp only at hSw); go_simp; try with_reducible rfl)
      try simp only [List.getElem_toArray, List.getElem_cons_succ, List.getElem_cons_zero, Act.put, List.setIfInBounds_toArray, List.set_cons_zero, List.set_cons_succ]
      refine wpAnyH_take (i := 1) (v := ?_) rfl (by kernel_rfl) (by kernel_rfl) (by kernel_rfl) (fun _ _ _ h => h) (Or.inl ⟨by rfl, ?_⟩) (by assumption) ?_
      rotate_left
      · (intro w hSw; (try dsimp only at hSw); go_simp; try with_reducible rfl)
      try simp only [List.getElem_toArray, List.getElem_cons_succ, List.getElem_cons_zero, Act.put, List.setIfInBounds_toArray, List.set_cons_zero, List.set_cons_succ]
      refine wpAnyH_take (i := 2) (v := ?_) rfl (by kernel_rfl) (by kernel_rfl) (by kernel_rfl) (fun _ _ _ h => h) (Or.inl ⟨by rfl, ?_⟩) (by assumption) ?_
      rotate_left
      · (intro w hSw; (try dsimp only at hSw); go_simp; try with_reducible rfl)
      try simp only [List.getElem_toArray, List.getElem_cons_succ, List.getElem_cons_zero, Act.put, List.setIfInBounds_toArray, List.set_cons_zero, List.set_cons_succ]
      refine wpAnyH_take (i := 3) (v := ?_) rfl (by kernel_rfl) (by kernel_rfl) (by kernel_rfl) (fun _ _ _ h => h) (Or.inl ⟨by rfl, ?_⟩) (by assumption) ?_
      rotate_left
      · (intro w hSw; (try dsimp only at hSw); go_simp; try with_reducible rfl)
      try simp only [List.getElem_toArray, List.getElem_cons_succ, List.getElem_cons_zero, Act.put, List.setIfInBounds_toArray, List.set_cons_zero, List.set_cons_succ]
      refine wpAnyH_take (i := 4) (v := ?_) rfl (by kernel_rfl) (by kernel_rfl) (by kernel_rfl) (fun _ _ _ h => h) (Or.inl ⟨by rfl, ?_⟩) (by assumption) ?_
      rotate_left
      · (intro w hSw; (try dsimp only at hSw); go_simp; try with_reducible rfl)
      try simp only [List.getElem_toArray, List.getElem_cons_succ, List.getElem_cons_zero, Act.put, List.setIfInBounds_toArray, List.set_cons_zero, List.set_cons_succ]
      refine wpAnyH_take (i := 5) (v := ?_) rfl (by kernel_rfl) (by kernel_rfl) (by kernel_rfl) (fun _ _ _ h => h) (Or.inl ⟨by rfl, ?_⟩) (by assumption) ?_
      rotate_left
      · (intro w hSw; (try dsimp only at hSw); go_simp; try with_reducible rfl)
      try simp only [List.getElem_toArray, List.getElem_cons_succ, List.getElem_cons_zero, Act.put, List.setIfInBounds_toArray, List.set_cons_zero, List.set_cons_succ]
      refine wpAnyH_take (i := 6) (v := ?_) rfl (by kernel_rfl) (by kernel_rfl) (by kernel_rfl) (fun _ _ _ h => h) (Or.inl ⟨by rfl, ?_⟩) (by assumption) ?_
      rotate_left
      · (intro w hSw; (try dsimp only at hSw); go_simp; try with_reducible rfl)
      try simp only [List.getElem_toArray, List.getElem_cons_succ, List.getElem_cons_zero, Act.put, List.setIfInBounds_toArray, List.set_cons_zero, List.set_cons_succ]
      refine wpAnyH_ready (rs := [7]) (by kernel_rfl) (by simp) ?_
      refine AllReadyH.cons (by rfl) (fun KK hKK => ?_) AllReadyH.nil
      simp only [List.getElem_toArray, List.getElem_cons_succ, List.getElem_cons_zero]
      go_simp
      go_at_call 39
      (with_reducible refine (Hid.out CP).mono ?_)
      rintro e w5 ⟨v5, rfl, hr5, hb5⟩
      have P5 := hide (PD.out.keep hb5)
      obtain ⟨⟨q0, q1, q2, q3, q4, q5, q6, q7, q8, q9, q10⟩, qf⟩ := P5.out.kn.hd.eleven
      have f0 := qf 0
      have f1 := qf 1
      have f2 := qf 2
      have f3 := qf 3
      have f4 := qf 4
      have f5 := qf 5
      have f6 := qf 6
      have f7 := qf 7
      have f8 := qf 8
      have f9 := qf 9
      have f10 := qf 10
      have hcx5 := HX.out w5 P5.out.kn.below
      clear qf
      refine hKK.out _ _ (⟨⟨q0, q1, q2, q3, q4, q5, q6, q7, q8, q9, q10⟩, hcx5⟩) (fun hHeld2 => ?_)
      clear hKK KK
      try simp only [List.getElem_toArray, List.getElem_cons_succ, List.getElem_cons_zero, Act.put, List.setIfInBounds_toArray, List.set_cons_zero, List.set_cons_succ]
      refine wpAnyH_done (by kernel_rfl) ?_ _
      refine Last.done_last ?_
      refine wpOp_step rfl (fun KK hKK => ?_)
      simp only [List.getElem_toArray, List.getElem_cons_succ, List.getElem_cons_zero]
      go_simp
      refine hKK _ _ ?_
      clear hKK
      go_simp
      refine gen_pk (PB.call PD.out hr5.out hb5) ?_
      intro W6 P6
      have hn5 := P6.out.rp.rp.num.2
      have hr5n := P6.out.rp.rp.rows.1
      rw [List.length_set] at hr5n
      have hn5' : v5.nx = s1.nx := hn5
      obtain ⟨N, hN⟩ : ∃ N, N = (v5.nx + 1) % v5.rows.n := ⟨_, rfl⟩
      have g1 : ((v5.nx : Int) + 1).tmod (v5.rows.n : Int) = (N : Int) := by rw [hN]; exact DqI.tmod_nat (v5.nx + 1) v5.rows.n
      have g2 : ¬ (v5.rows.n : Int) = 0 := by have := HN1.out; omega
      have g3 : v5.nx ≤ 64 := by have := HN1.out; have := H64.out; have := HS2.out; omega
      have c4 := P6.out.kn.hd.cell 4 rfl
      have c9 := P6.out.kn.hd.cell 9 rfl
      have f9 := P6.out.kn.hd.frozen 9
      have HNX : Hid (N = (s1.nx + 1) % s1.ks.length) := hide (by rw [hN, hn5', hr5n])
      have HF := hide (P6.out.nx N)
      clear hn5 hr5n hn5' hN q0 q1 q2 q3 q4 q5 q6 q7 q8 q9 q10 f0 f1 f2 f3 f4 f5 f6 f7 f8 f10 hcx5 p0 p1 p2 p3 p4 p5 p6 p7 p8 p9 p10 hcx hheld hr5 hb5 hHeld2 CP
      go_wp2
      go_roundw
      case rel => exact ⟨k + 1, _, by have := HKL.out; omega, by simp, hide (by
        have e := HADD.out k HKL.out
        rw [e, ← HS1.out, ← HX1.out]
        have e2 : addS s1 x = { s1 with ks := s1.ks.set v1.nx { κ with l := κ.l ++ [x] }, nx := N } := by
          unfold addS
          rw [HK.out, HNX.out, HV1.out]
        rw [e2]
        exact HF.out)⟩
      case measure => simp [intOf]; omega
    · obtain rfl : k = m := by have := HM.out; omega
      have hkk : ¬ (k : Int) < k := by omega
      have HT : Hid (l.take k = l) := hide (by rw [HM.out, List.take_length])
      rw [HT.out] at hP
      clear hlt
      obtain ⟨⟨p0, p1, p2, p3, p4, p5, p6, p7, p8, p9, p10⟩, pf⟩ := (Kn.hd hP.out.kn).eleven
      obtain ⟨_, qf⟩ := (DqI.Kn.hd2 hP.out.kn).eleven
      have f0 := qf 0
      have f1 := qf 1
      have f2 := qf 2
      have f3 := qf 3
      have f4 := qf 4
      have f5 := qf 5
      have f6 := qf 6
      have f7 := qf 7
      have f8 := qf 8
      have f9 := qf 9
      have f10 := qf 10
      have hne : ¬ bp = br := (List.pairwise_cons.1 hP.out.kn.sep).1 _ (.head _) bp rfl
      have hne2 : ¬ br = bp := fun e => hne e.symm
      clear pf qf
      go_wp2
      have R := hide (hP.out.ret hP.out.rp (Below.refl _ _))
      obtain ⟨⟨r0, r1, r2, r3, r4, r5, r6, r7, r8, r9, r10⟩, _⟩ := (Kn.hd R.out.1).eleven
      refine bodyPost_ret (v := .agg #[.slice v1.l.a v1.l.n v1.l.c, .int .i64 v1.c, .int .i64 (v1.n : Int), .int .i64 (v1.u : Int), .slice v1.rows.a v1.rows.n v1.rows.c, .slice v1.held.a v1.held.n v1.held.c, .slice v1.holds.a v1.holds.n v1.holds.c, .slice v1.done.a v1.done.n v1.done.c, .int .i64 (v1.st : Int), .int .i64 (v1.nx : Int), .slice v1.who.a v1.who.n v1.who.c]) (by simp [results, Tryz.results13, go_sem, r0, r1, r2, r3, r4, r5, r6, r7, r8, r9, r10]) rfl ?_
      exact ⟨v1, rfl, hide R.out.2, R.out.1.below⟩
end Go.Proofs.YtkjhamcmhijhgaaGreat.PRef

/- The document's step: a worker that holds nothing steals a job. -/
namespace Go.Proofs.YtkjhamcmhijhgaaGreat.PRef
open Go.RowKit Go.Proofs.YtkjhamcmhijhgaaGreat.Dig Go.Proofs.YtkjhamcmhijhgaaGreat.Mem Go.Proofs.YtkjhamcmhijhgaaGreat.Dq Go.Proofs.YtkjhamcmhijhgaaGreat.Thing Go.Proofs.YtkjhamcmhijhgaaGreat.Pick Go.Proofs.YtkjhamcmhijhgaaGreat.Sets Go.Proofs.YtkjhamcmhijhgaaGreat.Pool
set_option linter.unusedVariables false
set_option linter.unusedSimpArgs false

structure Stl (s : PS Int) (k d z : Nat) (κv : W1 Int) (x : Int) (l : List Int) : Prop where
  bef : ∀ j, j < d → Pool.rowAt s.ks ((k + (j + 1)) % s.ks.length) = []
  ez : z = (k + (d + 1)) % s.ks.length
  kz : s.ks[z]? = some κv
  l : κv.l = x :: l
  ne : z ≠ k
  lt : d + 1 < s.ks.length
set_option maxRecDepth 20000 in
set_option maxHeartbeats 4000000 in
theorem step_steal {A : Nat → Prop} {w : World} {v : RV} {L : List Int} {c : Int} {n : Nat} {s : PS Int} (h : Hid (RPA A w v L c n s)) (hA : ∀ k, A k → k < w.heap.size) (h64 : s.ks.length ≤ 64) (hwho : s.who.length ≤ 50000) {k d : Nat} {κ κv : W1 Int} {l : List Int} {x : Int} (hk : s.ks[k]? = some κ) (hh : κ.h = false) (hl : κ.l = []) (hd1 : d + 1 < s.ks.length) (hbef : ∀ j, j < d → Pool.rowAt s.ks ((k + (j + 1)) % s.ks.length) = []) {z : Nat} (hz : z = (k + (d + 1)) % s.ks.length) (hkz : s.ks[z]? = some κv) (hlv : κv.l = x :: l) (hne : z ≠ k) (hst : s.st ≤ 50000) (hlen : l.length ≤ 50000) :
    Calls Tryz.prog 38 #[.agg #[.slice v.l.a v.l.n v.l.c, .int .i64 v.c, .int .i64 (v.n : Int), .int .i64 (v.u : Int), .slice v.rows.a v.rows.n v.rows.c, .slice v.held.a v.held.n v.held.c, .slice v.holds.a v.holds.n v.holds.c, .slice v.done.a v.done.n v.done.c, .int .i64 (v.st : Int), .int .i64 (v.nx : Int), .slice v.who.a v.who.n v.who.c], .int .i64 (k : Int)] w fun e w' => ∃ v', e = .returned (.agg #[.slice v'.l.a v'.l.n v'.l.c, .int .i64 v'.c, .int .i64 (v'.n : Int), .int .i64 (v'.u : Int), .slice v'.rows.a v'.rows.n v'.rows.c, .slice v'.held.a v'.held.n v'.held.c, .slice v'.holds.a v'.holds.n v'.holds.c, .slice v'.done.a v'.done.n v'.done.c, .int .i64 (v'.st : Int), .int .i64 (v'.nx : Int), .slice v'.who.a v'.who.n v'.who.c]) ∧ Hid (RPA A w' v' L c n { s with ks := (s.ks.set z ⟨l, κv.x, κv.h⟩).set k ⟨[], x, true⟩, st := s.st + 1, who := s.who ++ [(k : Int)] }) ∧ Below w.heap.size w w' := by
  obtain ⟨i0, hi, hz0, hz1, hz2⟩ := info_parts Tryz.infoPInt
  obtain ⟨⟨la, lm, lp⟩, vc, vn, vu, ⟨ra, rn, rc⟩, ⟨ha, hn, hc⟩, ⟨oa, on, oc⟩, ⟨da, dn, dc⟩, vst, vnx, ⟨wa, wn, wc⟩, vds⟩ := v
  have hklt : k < s.ks.length := (List.getElem?_eq_some_iff.1 hk).1
  obtain ⟨q1, q2, q3⟩ := h.out.rp.rows
  obtain ⟨dk, hd, hdn, hdr⟩ := q3.get (k := k) (l := κ.l) (by rw [List.getElem?_map, hk]; rfl)
  obtain ⟨rb, ro, rfl, hrc⟩ := q2.at_ k dk.v (by rw [List.getElem?_map, hd]; rfl)
  obtain ⟨o1, o2⟩ := h.out.rp.holds
  obtain ⟨ob, oo, rfl, hoc⟩ := o2.at_ k (.bool κ.h) (by rw [List.getElem?_map, hk]; rfl)
  rw [hh] at hoc
  have HA := hide hA
  have P0 : Hid (PB A w w.heap.size (w.heap.size + 1) #[.slice none 0 0, .int .i64 0, .int .i64 0, .int .i64 0, .slice none 0 0, .slice none 0 0, .slice none 0 0, .slice none 0 0, .int .i64 0, .int .i64 0, .slice none 0 0] [] ⟨⟨la, lm, lp⟩, vc, vn, vu, ⟨some ⟨rb, ro, none⟩, rn, rc⟩, ⟨ha, hn, hc⟩, ⟨some ⟨ob, oo, none⟩, on, oc⟩, ⟨da, dn, dc⟩, vst, vnx, ⟨wa, wn, wc⟩, vds⟩ L c n s ((w.alloc (.cells #[.slice la lm lp, .int .i64 vc, .int .i64 (vn : Int), .int .i64 (vu : Int), .slice (some ⟨rb, ro, none⟩) rn rc, .slice ha hn hc, .slice (some ⟨ob, oo, none⟩) on oc, .slice da dn dc, .int .i64 (vst : Int), .int .i64 (vnx : Int), .slice wa wn wc] 36)).alloc (.cells #[.slice none 0 0, .int .i64 0, .int .i64 0, .int .i64 0, .slice none 0 0, .slice none 0 0, .slice none 0 0, .slice none 0 0, .int .i64 0, .int .i64 0, .slice none 0 0] 36))) := hide (PB.start h.out hA _ rfl)
  have K0 := hide (OB.start P0.out.kn 3 P0.out.kn.below.size (g := w.heap.size + 1 + 1) (by simp))
  obtain ⟨ln, hln⟩ : ∃ ln, ln = (s.who.map (Value.int .i64)).length := ⟨_, rfl⟩
  have HLN := hide hln
  have hlb : ln ≤ 50000 := by rw [hln, List.length_map]; exact hwho
  have HWB := hide hwho
  have HWF : Hid ((Lit.int .i64 (k : Int)).wf = true) := hide (wf_of_i64 (by omega) (by omega))
  have HC : Hid (∀ W, Below w.heap.size w W → W.cell? ⟨rb, ro + k, none⟩ = some (.slice dk.a dk.n dk.c) ∧ W.cell? ⟨ob, oo + k, none⟩ = some (.bool false)) := hide (fun W ho => ⟨(ho.cell (p := ⟨rb, ro + k, none⟩) (lt_of_cell hrc)).trans hrc, (ho.cell (p := ⟨ob, oo + k, none⟩) (lt_of_cell hoc)).trans hoc⟩)
  have hrb : rb < w.heap.size := lt_of_cell hrc
  have hob : ob < w.heap.size := lt_of_cell hoc
  have e1 : ¬ rb = w.heap.size := by omega
  have e2 : ¬ ob = w.heap.size := by omega
  have q1' : rn = s.ks.length := q1
  have o1' : on = s.ks.length := o1
  have hkr : (k : Int) < rn := by omega
  have hko : (k : Int) < on := by omega
  have hdn0 : dk.n = 0 := by rw [hdn, hl]; rfl
  have HH := hide h
  have HK := hide hk
  have HKL := hide hl
  have HHF := hide hh
  have H64 := hide h64
  have HLEN := hide hlen
  have HKN : Hid (k < s.ks.length) := hide hklt
  have HSTL : Hid (Stl s k d z κv x l) := hide ⟨hbef, hz, hkz, hlv, hne, hd1⟩
  have hst' : vst = s.st := h.out.rp.num.1
  have hvst : vst ≤ 50000 := by omega
  have HST := hide hst'
  have HRN := hide q1'
  clear hst' hst hbef hz hkz hlv hne hd1 q1' o1' h hA hk hh hl hln hwho hd hdn hdr hrc hoc q1 q2 q3 o1 o2 hrb hob hklt h64 hlen
  go_enter Tryz.func38, Tryz.ntmps38
  go_wp2_with (first
    | (at_builtin; go_must (first
      | (refine app_cells 22 3 Tryz.underlying22 Tryz.infoPInt rfl (by decide) rfl _ _ rfl w.heap.size (.slice (some ⟨w.heap.size + 1 + 1, 0, none⟩) 0 0) 0 [] rfl (Kn.hd K0.out.kn) wa wc wn (s.who.map (Value.int .i64)) rfl (by rw [List.length_map]; exact P0.out.rp.rp.who.1) ((CellsR.of_row P0.out.rp.rp.who.2).keep ((Below.refl _ _).alloc (Nat.le_refl _) _)) (fun u hu => by obtain ⟨n, _, rfl⟩ := List.mem_map.1 hu; rfl) (by have := HWB.out; rw [List.length_map]; omega) K0.out.kn.below.size ?_; intro v7 w7 hown7 hg7 hat7; rw [Nat.zero_add, List.nil_append, ← HLN.out] at hown7; obtain ⟨a7, c7, rfl⟩ := Dq.own_form hown7; have K7 := hide (K0.out.grow hown7 hg7 hat7); clear hown7 hg7 hat7)
      | ((refine wpList_append_own_at _ rfl _ _ 22 rfl w.heap.size 3 i0 (.int .i64 0) 1 8 Tryz.underlying22 hi hz0 hz1 hz2 rfl (by decide) (.slice a7 ln c7) ln (s.who.map (Value.int .i64)) rfl (World.ownsRow.alloc (Kn.hd K7.out.kn) _) ⟨(w7).heap.size, 0, none⟩ 1 1 [.int .i64 (k : Int)] rfl rfl (cell_one_new _ _ _) (by simp [Value.oneCell']) (by unfold maxLen; omega) (by omega) (by have := K7.out.kn.below.size; simp; omega) ?_; intro v10 w10 hown10 hg10 _ hat10; obtain ⟨a10, c10, rfl⟩ := Dq.own_form hown10; have K10 := hide ((K7.out.alloc (.cells #[.int .i64 (k : Int)] 3)).grow hown10 hg10 hat10); clear hown10 hg10 hat10); have P10 := hide (P0.out.who HA.out K10.out HWF.out (by have := HWB.out; omega)); obtain ⟨x1, x2⟩ := HC.out _ K10.out.kn.below; obtain ⟨⟨p0, p1, p2, p3, p4, p5, p6, p7, p8, p9, p10⟩, pf⟩ := (DqI.Kn.hd2 K10.out.kn).eleven; have pf10 := pf 10; have HP := hide (P10.out.rp); clear pf))))
  have HP2 : Hid (PB A w w.heap.size (w.heap.size + 1) z11 [] (⟨⟨la, lm, lp⟩, vc, vn, vu, ⟨some ⟨rb, ro, none⟩, rn, rc⟩, ⟨ha, hn, hc⟩, ⟨some ⟨ob, oo, none⟩, on, oc⟩, ⟨da, dn, dc⟩, vst, vnx, ⟨a10, ln + 1, c10⟩, vds⟩ : RV) L c n { s with who := s.who ++ [(k : Int)] } (w10.setCell ⟨w.heap.size, 10, none⟩ (.slice a10 (ln + 1) c10))) := P10
  generalize (w10.setCell ⟨w.heap.size, 10, none⟩ (.slice a10 (ln + 1) c10)) = WL at HP2 ⊢
  obtain ⟨bp, hbp⟩ : ∃ bp, bp = w.heap.size := ⟨_, rfl⟩
  obtain ⟨br, hbr⟩ : ∃ br, br = w.heap.size + 1 := ⟨_, rfl⟩
  rw [← hbr, ← hbp] at HP2 ⊢
  have HAB : Hid (∀ k, A k → k < w.heap.size) := HA
  clear hbp hbr p0 p1 p2 p3 p4 p5 p6 p7 p8 p9 p10 x1 x2 pf10 HP P10 K10 K7 K0 P0 HC e1 e2
  have p4 := HP2.out.kn.hd.cell 4 rfl
  go_loopw [8] (fun jv wr => ∃ j : Nat, j ≤ d ∧ jv = .int .i64 ((j : Int) + 1) ∧ wr = WL) (fun jv _ => d + 1 - (intOf jv).toNat)
  case atStart => exact ⟨0, Nat.zero_le _, rfl, rfl⟩
  case round =>
    obtain ⟨j, hj, rfl, hwr⟩ := hrel
    replace hwr := hwr.symm
    subst hwr
    obtain ⟨N, hN⟩ : ∃ N, N = (k + (j + 1)) % rn := ⟨_, rfl⟩
    have hjr : j + 1 < rn := by have := HSTL.out.lt; have := HRN.out; omega
    have hjri : ((j : Int) + 1) < rn := by omega
    have g1 : ((k : Int) + ((j : Int) + 1)).tmod (rn : Int) = (N : Int) := by rw [hN]; exact DqI.tmod_nat (k + (j + 1)) rn
    have g1' : ((k : Int) + ((j : Int) + 1)) % (rn : Int) = (N : Int) := by rw [hN, Int.natCast_emod]; rfl
    have g2 : ¬ (rn : Int) = 0 := by omega
    have hNr : N < rn := by rw [hN]; exact Nat.mod_lt _ (by omega)
    have hNri : (N : Int) < rn := by omega
    have hrn64 : rn ≤ 64 := by have := H64.out; have := HRN.out; omega
    obtain ⟨u1, u2, u3⟩ := HP2.out.rp.rp.rows
    obtain ⟨κN, hκN⟩ : ∃ κN, s.ks[N]? = some κN := ⟨s.ks[N]'(by rw [← HRN.out]; exact hNr), List.getElem?_eq_getElem _⟩
    obtain ⟨dN, hdN, hdNn, hdNr⟩ := u3.get (k := N) (l := κN.l) (by show (s.ks.map fun κ => κ.l)[N]? = _; rw [List.getElem?_map, hκN]; rfl)
    obtain ⟨rb', ro', hrr, hrcN⟩ := u2.at_ N dN.v (by rw [List.getElem?_map, hdN]; rfl)
    cases hrr
    have hcN : WL.cell? ⟨rb, ro + N, none⟩ = some (.slice dN.a dN.n dN.c) := hrcN
    by_cases hjd : j < d
    · have hem : κN.l = [] := by
        have := HSTL.out.bef j hjd
        rw [← HRN.out, ← hN] at this
        unfold Pool.rowAt at this
        rw [hκN] at this
        exact this
      have hd0 : dN.n = 0 := by rw [hdNn, hem]; rfl
      clear hN u1 u2 u3 hκN hdN hdNn hdNr hrcN hem
      go_wp2
      go_roundw
      case rel => exact ⟨j + 1, by omega, by simp, trivial⟩
      case measure => simp [intOf]; omega
    · obtain rfl : j = d := by omega
      obtain rfl : N = z := by rw [hN, HSTL.out.ez, HRN.out]
      obtain rfl : κN = κv := by have := HSTL.out.kz; rw [hκN] at this; exact Option.some.inj this
      have hdp : 0 < dN.n := by rw [hdNn, HSTL.out.l]; simp
      have hdpi : (0 : Int) < dN.n := by omega
      have c8 := HP2.out.kn.hd.cell 8 rfl
      obtain ⟨⟨p0, p1, p2, p3, _, p5, p6, p7, p8, p9, p10⟩, pf⟩ := HP2.out.kn.hd.eleven
      have pf8 := pf 8
      have P3 := hide (HP2.out.st (vst + 1) (z := (vst : Int) + 1) (by omega))
      have CT : Hid (Calls Tryz.prog 62 #[.agg #[.slice la lm lp, .int .i64 vc, .int .i64 (vn : Int), .int .i64 (vu : Int), .slice (some ⟨rb, ro, none⟩) rn rc, .slice ha hn hc, .slice (some ⟨ob, oo, none⟩) on oc, .slice da dn dc, .int .i64 ((vst : Int) + 1), .int .i64 (vnx : Int), .slice a10 (ln + 1) c10], .int .i64 (k : Int), .int .i64 (N : Int), .bool false] (WL.setCell ⟨bp, 8, none⟩ (.int .i64 ((vst : Int) + 1))) fun e w' => ∃ v', e = .returned (.agg #[.slice v'.l.a v'.l.n v'.l.c, .int .i64 v'.c, .int .i64 (v'.n : Int), .int .i64 (v'.u : Int), .slice v'.rows.a v'.rows.n v'.rows.c, .slice v'.held.a v'.held.n v'.held.c, .slice v'.holds.a v'.holds.n v'.holds.c, .slice v'.done.a v'.done.n v'.done.c, .int .i64 (v'.st : Int), .int .i64 (v'.nx : Int), .slice v'.who.a v'.who.n v'.who.c]) ∧ Hid (RPA (PA A bp br) w' v' L c n { s with ks := (s.ks.set N { κN with l := l }).set k { κ with x := x, h := true }, st := vst + 1, who := s.who ++ [(k : Int)] }) ∧ Below (WL.setCell ⟨bp, 8, none⟩ (.int .i64 ((vst : Int) + 1))).heap.size (WL.setCell ⟨bp, 8, none⟩ (.int .i64 ((vst : Int) + 1))) w') := hide (by
        have := take_first (hide P3.out.rp) (P3.out.lt HAB.out) (z := N) (k := k) (κz := κN) (κ2 := κ) (x := x) (l := l) hκN HSTL.out.l (by show (s.ks.set N _)[k]? = _; rw [List.getElem?_set_ne HSTL.out.ne]; exact HK.out) (by have := HLEN.out; omega) H64.out
        exact this)
      clear hN u1 u2 u3 hκN hdN hdNn hdNr hrcN pf hdp
      go_wp2_with (go_at_call 62; go_must ((with_reducible refine (Hid.out CT).mono ?_); rintro e w11 ⟨v11, rfl, hr11, hb11⟩; obtain ⟨_, qf⟩ := (DqI.Kn.hd2 (P3.out.kn.keep hb11)).eleven; have f0 := qf 0; have f1 := qf 1; have f2 := qf 2; have f3 := qf 3; have f4 := qf 4; have f5 := qf 5; have f6 := qf 6; have f7 := qf 7; have f8 := qf 8; have f9 := qf 9; have f10 := qf 10; clear qf))
      have R := hide (P3.out.ret hr11.out hb11)
      obtain ⟨⟨r0, r1, r2, r3, r4, r5, r6, r7, r8, r9, r10⟩, _⟩ := (Kn.hd R.out.1).eleven
      refine bodyPost_ret (v := .agg #[.slice v11.l.a v11.l.n v11.l.c, .int .i64 v11.c, .int .i64 (v11.n : Int), .int .i64 (v11.u : Int), .slice v11.rows.a v11.rows.n v11.rows.c, .slice v11.held.a v11.held.n v11.held.c, .slice v11.holds.a v11.holds.n v11.holds.c, .slice v11.done.a v11.done.n v11.done.c, .int .i64 (v11.st : Int), .int .i64 (v11.nx : Int), .slice v11.who.a v11.who.n v11.who.c]) (by simp [results, Tryz.results38, go_sem, r0, r1, r2, r3, r4, r5, r6, r7, r8, r9, r10]) rfl ?_
      refine ⟨v11, rfl, hide ?_, R.out.1.below⟩
      have := R.out.2
      rw [HST.out] at this
      have e : ({ κ with x := x, h := true } : W1 Int) = ⟨[], x, true⟩ := by rw [HKL.out]
      rw [e] at this
      exact this
end Go.Proofs.YtkjhamcmhijhgaaGreat.PRef
