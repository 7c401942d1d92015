/- Joined out of the texts EncChk, SetPlain, TabPlain, EncKeys, in that order. -/
import Derived.Test.YtofgfcebkmdhcaaAll3
import Derived.WalkKit
import Derived.Lib.SlicesCompact
import Derived.Test.YtofgfcebkmdhcaaAll1
/- Which history may be, and its first error, as plain functions; what may be comes back. -/
namespace Go.Proofs.Ytofgfcebkmdhcaa.Hist
open Go.RowKit Go.Proofs.Ytofgfcebkmdhcaa.Dig Go.Proofs.Ytofgfcebkmdhcaa.Mem
set_option linter.unusedVariables false
set_option linter.unusedSimpArgs false

def mayB (n : Int) : Bool := decide (0 ≤ n ∧ n ≤ 2147483647)
theorem mayB_iff {n : Int} : mayB n = true ↔ mayN n := by unfold mayB mayN; exact decide_eq_true_iff
theorem mayB_no {n : Int} : mayB n = false ↔ ¬ mayN n := by unfold mayB mayN; exact decide_eq_false_iff_not
def mayOpB (o : OpM) : Bool := if o.read = true then mayB o.key && o.list.all mayB && o.value == 0 else mayB o.key && mayB o.value && o.list.length == 0
/-- An operation's first error, behind a history. -/
def chkO (pre : List TxnM) (o : OpM) : Int := if mayOpB o = false then 2 else if o.read = false ∧ appB pre o.key o.value = true then 6 else 0
def chkOs : List TxnM → List OpM → Int
  | _, [] => 0
  | pre, o :: os => if chkO pre o = 0 then chkOs (addOp pre o) os else chkO pre o
def chkT (pre : List TxnM) (t : TxnM) : Int := if mayB t.id = false then 2 else if twinB pre t.id = true then 5 else chkOs (pre ++ [⟨t.id, t.ab, []⟩]) t.ops
def chkTs : List TxnM → List TxnM → Int
  | _, [] => 0
  | pre, t :: ts => if chkT pre t = 0 then chkTs (pre ++ [t]) ts else chkT pre t
def checkS (ts : List TxnM) : Int := if 1024 < ts.length ∨ 4096 < opsN ts then 3 else if chkTs [] ts ≠ 0 then chkTs [] ts else if 262144 < (textH ts).length then 3 else 0

theorem addOp_at (pre : List TxnM) (t : TxnM) (o : OpM) : addOp (pre ++ [t]) o = pre ++ [⟨t.id, t.ab, t.ops ++ [o]⟩] := by simp [addOp]
theorem chkOs_app : ∀ (os ps : List OpM) (qs : List TxnM) (id : Int) (ab : Bool) (rs : List OpM), chkOs (qs ++ [⟨id, ab, rs⟩]) (os ++ ps) = if chkOs (qs ++ [⟨id, ab, rs⟩]) os = 0 then chkOs (qs ++ [⟨id, ab, rs ++ os⟩]) ps else chkOs (qs ++ [⟨id, ab, rs⟩]) os
  | [], ps, qs, id, ab, rs => by simp [chkOs]
  | o :: os, ps, qs, id, ab, rs => by
    have ih := chkOs_app os ps qs id ab (rs ++ [o])
    rw [List.cons_append, chkOs, chkOs]
    by_cases h : chkO (qs ++ [⟨id, ab, rs⟩]) o = 0
    · rw [if_pos h, if_pos h, addOp_at, ih, List.append_assoc, List.singleton_append]
    · rw [if_neg h, if_neg h, if_neg h]
theorem chkTs_app : ∀ (ts us qs : List TxnM), chkTs qs (ts ++ us) = if chkTs qs ts = 0 then chkTs (qs ++ ts) us else chkTs qs ts
  | [], us, qs => by simp [chkTs]
  | t :: ts, us, qs => by
    rw [List.cons_append, chkTs, chkTs]
    by_cases h : chkT qs t = 0
    · rw [if_pos h, if_pos h, chkTs_app ts us, List.append_assoc, List.singleton_append]
    · rw [if_neg h, if_neg h, if_neg h]
/-- As far as k transactions there is no error. -/
theorem chkTs_next {ts : List TxnM} {k : Nat} (hk : k < ts.length) (h : chkTs [] (ts.take k) = 0) : chkTs [] (ts.take (k + 1)) = chkT (ts.take k) ts[k] := by
  rw [List.take_succ_eq_append_getElem hk, chkTs_app, if_pos h, List.nil_append, chkTs]
  by_cases e : chkT (ts.take k) ts[k] = 0
  · rw [if_pos e, chkTs, e]
  · rw [if_neg e]
theorem chkTs_stop {ts : List TxnM} {k : Nat} {e : Int} (h : chkTs [] (ts.take k) = e) (he : e ≠ 0) : chkTs [] ts = e := by
  have := chkTs_app (ts.take k) (ts.drop k) []
  rw [List.take_append_drop, if_neg (by rw [h]; exact he), h] at this
  exact this
theorem chkOs_next {qs : List TxnM} {id : Int} {ab : Bool} {os : List OpM} {k : Nat} (hk : k < os.length) (h : chkOs (qs ++ [⟨id, ab, []⟩]) (os.take k) = 0) : chkOs (qs ++ [⟨id, ab, []⟩]) (os.take (k + 1)) = chkO (qs ++ [⟨id, ab, os.take k⟩]) os[k] := by
  rw [List.take_succ_eq_append_getElem hk, chkOs_app, if_pos h, List.nil_append, chkOs]
  by_cases e : chkO (qs ++ [⟨id, ab, os.take k⟩]) os[k] = 0
  · rw [if_pos e, chkOs, e]
  · rw [if_neg e]
theorem chkOs_stop {qs : List TxnM} {id : Int} {ab : Bool} {os : List OpM} {k : Nat} {e : Int} (h : chkOs (qs ++ [⟨id, ab, []⟩]) (os.take k) = e) (he : e ≠ 0) : chkOs (qs ++ [⟨id, ab, []⟩]) os = e := by
  have := chkOs_app (os.take k) (os.drop k) qs id ab []
  rw [List.take_append_drop, if_neg (by rw [h]; exact he), h] at this
  exact this

/-! ### No error: it may be -/
theorem mayOp_ok {ts : List TxnM} {o : OpM} : chkO ts o = 0 ↔ OpOk ts o := by
  obtain ⟨r, k, v, l⟩ := o
  unfold chkO OpOk mayOpB
  cases r
  · simp only [Bool.false_eq_true, if_false, false_and, false_or, true_and]
    constructor
    · intro h
      split at h
      · cases h
      · rename_i h1
        split at h
        · cases h
        · rename_i h2
          simp only [Bool.not_eq_false, Bool.and_eq_true, mayB_iff, beq_iff_eq, Bool.not_eq_true] at h1 h2
          exact ⟨h1.1.1, h1.1.2, List.eq_nil_of_length_eq_zero h1.2, h2⟩
    · rintro ⟨h1, h2, h3, h4⟩
      subst h3
      rw [if_neg (by rw [mayB_iff.2 h1, mayB_iff.2 h2]; simp), if_neg (by simp [h4])]
  · simp only [if_true, true_and, Bool.true_eq_false, false_and, or_false]
    constructor
    · intro h
      split at h
      · cases h
      · rename_i h1
        simp only [Bool.not_eq_false, Bool.and_eq_true, mayB_iff, beq_iff_eq, List.all_eq_true] at h1
        exact ⟨h1.1.1, h1.2, h1.1.2⟩
    · rintro ⟨h1, h2, h3⟩
      subst h2
      rw [if_neg (by rw [mayB_iff.2 h1, (List.all_eq_true.2 fun x hx => mayB_iff.2 (h3 x hx) : l.all mayB = true)]; simp)]
      simp
theorem chkOs_valid : ∀ (os : List OpM) (qs : List TxnM) (id : Int) (ab : Bool) (rs : List OpM), Valid (qs ++ [⟨id, ab, rs⟩]) → chkOs (qs ++ [⟨id, ab, rs⟩]) os = 0 → Valid (qs ++ [⟨id, ab, rs ++ os⟩])
  | [], qs, id, ab, rs, hv, _ => by simpa using hv
  | o :: os, qs, id, ab, rs, hv, h => by
    rw [chkOs] at h
    by_cases e : chkO (qs ++ [⟨id, ab, rs⟩]) o = 0
    · rw [if_pos e, addOp_at] at h
      have := chkOs_valid os qs id ab (rs ++ [o]) (by have := Valid.op hv (by simp) (mayOp_ok.1 e); rwa [addOp_at] at this) h
      rwa [List.append_assoc, List.singleton_append] at this
    · rw [if_neg e] at h; exact absurd h e
theorem chkTs_valid : ∀ (ts qs : List TxnM), Valid qs → qs.length + ts.length ≤ 1024 → chkTs qs ts = 0 → Valid (qs ++ ts)
  | [], qs, hv, _, _ => by simpa using hv
  | t :: ts, qs, hv, hl, h => by
    simp at hl
    rw [chkTs] at h
    by_cases e : chkT qs t = 0
    · rw [if_pos e] at h
      have hv2 : Valid (qs ++ [t]) := by
        unfold chkT at e
        by_cases h1 : mayB t.id = false
        · rw [if_pos h1] at e; cases e
        by_cases h2 : twinB qs t.id = true
        · rw [if_neg h1, if_pos h2] at e; cases e
        rw [if_neg h1, if_neg h2] at e
        have := chkOs_valid t.ops qs t.id t.ab [] (Valid.txn hv (by omega) (mayB_iff.1 (by simpa using h1)) (by simpa using h2)) e
        simpa using this
      have := chkTs_valid ts (qs ++ [t]) hv2 (by simp; omega) h
      rwa [List.append_assoc, List.singleton_append] at this
    · rw [if_neg e] at h; exact absurd h e
/-- .. and the other way. -/
theorem valid_chk {ts : List TxnM} (h : Valid ts) : chkTs [] ts = 0 := by
  induction h with
  | nil => rfl
  | @txn ts id ab h hl hi ht ih =>
    rw [chkTs_app, if_pos ih, List.nil_append, chkTs]
    have : chkT ts ⟨id, ab, []⟩ = 0 := by unfold chkT; rw [if_neg (by simp [mayB_iff.2 hi]), if_neg (by simp [ht])]; rfl
    rw [if_pos this, chkTs]
  | @op ts o h hts ho ih =>
    obtain ⟨us, t, rfl⟩ : ∃ us t, ts = us ++ [t] := ⟨_, _, (List.dropLast_concat_getLast hts).symm⟩
    rw [addOp_at]
    rw [chkTs_app] at ih ⊢
    by_cases e : chkTs [] us = 0
    · rw [if_pos e, List.nil_append] at ih ⊢
      have hT : chkT us t = 0 := by
        rw [chkTs] at ih
        by_cases q : chkT us t = 0
        · exact q
        · rw [if_neg q] at ih; exact ih
      rw [chkTs]
      have : chkT us ⟨t.id, t.ab, t.ops ++ [o]⟩ = 0 := by
        unfold chkT at hT ⊢
        by_cases h1 : mayB t.id = false
        · rw [if_pos h1] at hT; cases hT
        by_cases h2 : twinB us t.id = true
        · rw [if_neg h1, if_pos h2] at hT; cases hT
        rw [if_neg h1, if_neg h2] at hT
        rw [if_neg h1, if_neg h2]
        show chkOs (us ++ [⟨t.id, t.ab, []⟩]) (t.ops ++ [o]) = 0
        rw [chkOs_app, if_pos hT, List.nil_append, chkOs, if_pos (mayOp_ok.2 ho), chkOs]
      rw [if_pos this, chkTs]
    · rw [if_neg e] at ih; exact absurd ih e
theorem valid_len {ts : List TxnM} (h : Valid ts) : ts.length ≤ 1024 := by
  induction h with
  | nil => simp
  | txn h hl hi ht ih => simp; omega
  | op h hts ho ih => rw [addOp_len]; exact ih
theorem checkS_ok {ts : List TxnM} (h : checkS ts = 0) : Valid ts ∧ opsN ts ≤ 4096 ∧ (textH ts).length ≤ 262144 ∧ ts.length ≤ 1024 := by
  unfold checkS at h
  by_cases h1 : 1024 < ts.length ∨ 4096 < opsN ts
  · rw [if_pos h1] at h; cases h
  by_cases h2 : chkTs [] ts ≠ 0
  · rw [if_neg h1, if_pos h2] at h; exact absurd h h2
  by_cases h3 : 262144 < (textH ts).length
  · rw [if_neg h1, if_neg h2, if_pos h3] at h; cases h
  have := chkTs_valid ts [] Valid.nil (by simp; omega) (by omega)
  exact ⟨by simpa using this, by omega, by omega, by omega⟩
theorem ok_checkS {ts : List TxnM} (hv : Valid ts) (ho : opsN ts ≤ 4096) (hl : (textH ts).length ≤ 262144) : checkS ts = 0 := by
  have := valid_len hv
  unfold checkS
  rw [if_neg (by omega), if_neg (by rw [valid_chk hv]; simp), if_neg (by omega)]

/-! ### Its text, as bytes -/
def lineT8 (id : Int) (ab : Bool) : List UInt8 := 116 :: 32 :: (txt id.toNat ++ [32, if ab then 97 else 99, 10])
def flat8 (l : List Int) : List UInt8 := (l.map fun x => 32 :: txt x.toNat).flatten
def lineO8 (o : OpM) : List UInt8 := if o.read = true then 114 :: 32 :: (txt o.key.toNat ++ (flat8 o.list ++ [10])) else 97 :: 32 :: (txt o.key.toNat ++ (32 :: (txt o.value.toNat ++ [10])))
def textT8 (t : TxnM) : List UInt8 := lineT8 t.id t.ab ++ (t.ops.map lineO8).flatten
def textH8 (ts : List TxnM) : List UInt8 := (ts.map textT8).flatten
def toI (l : List UInt8) : List Int := l.map fun b => (b.toNat : Int)
theorem toI_len (l : List UInt8) : (toI l).length = l.length := by simp [toI]
theorem flat_toI : ∀ l : List Int, toI (flat8 l) = flat l
  | [] => rfl
  | x :: l => by
    have ih := flat_toI l
    simp only [flat8, List.map_cons, List.flatten_cons, toI, List.map_append] at ih ⊢
    rw [ih]
    rfl
theorem lineT_toI (id : Int) (ab : Bool) : toI (lineT8 id ab) = lineT id ab := by cases ab <;> simp [toI, lineT8, lineT, txtI]
theorem lineO_toI (o : OpM) : toI (lineO8 o) = lineO o := by
  unfold lineO8 lineO
  split
  · rw [← flat_toI]; simp [toI, txtI]
  · simp [toI, txtI]
theorem ops_toI : ∀ os : List OpM, toI (os.map lineO8).flatten = (os.map lineO).flatten
  | [] => rfl
  | o :: os => by
    have ih := ops_toI os
    have h := lineO_toI o
    simp only [List.map_cons, List.flatten_cons, toI, List.map_append] at ih h ⊢
    rw [ih, h]
theorem textT_toI (t : TxnM) : toI (textT8 t) = textT t := by
  have h1 := lineT_toI t.id t.ab
  have h2 := ops_toI t.ops
  simp only [textT8, textT, toI, List.map_append] at h1 h2 ⊢
  rw [h1, h2]
theorem textH_toI : ∀ ts : List TxnM, toI (textH8 ts) = textH ts
  | [] => rfl
  | t :: ts => by
    have ih := textH_toI ts
    have h := textT_toI t
    simp only [textH8, textH, List.map_cons, List.flatten_cons, toI, List.map_append] at ih h ⊢
    rw [ih, h]
theorem textH8_len (ts : List TxnM) : (textH8 ts).length = (textH ts).length := by rw [← textH_toI, toI_len]
/-- All its numbers may be. -/
def MayAll (ts : List TxnM) : Prop := ∀ t ∈ ts, mayN t.id ∧ ∀ o ∈ t.ops, mayOpB o = true
theorem valid_may {ts : List TxnM} (h : Valid ts) : MayAll ts := by
  induction h with
  | nil => intro t ht; cases ht
  | txn h hl hi ht ih =>
    intro u hu
    rcases List.mem_append.1 hu with q | q
    · exact ih u q
    · obtain rfl := List.mem_singleton.1 q
      exact ⟨hi, fun o ho => by cases ho⟩
  | @op ts o h hts ho ih =>
    obtain ⟨us, t, rfl⟩ : ∃ us t, ts = us ++ [t] := ⟨_, _, (List.dropLast_concat_getLast hts).symm⟩
    rw [addOp_at]
    intro u hu
    rcases List.mem_append.1 hu with q | q
    · exact ih u (List.mem_append_left _ q)
    · obtain rfl := List.mem_singleton.1 q
      have ht := ih t (by simp)
      refine ⟨ht.1, fun p hp => ?_⟩
      rcases List.mem_append.1 hp with r | r
      · exact ht.2 p r
      · obtain rfl := List.mem_singleton.1 r
        have := mayOp_ok.2 ho
        unfold chkO at this
        by_cases e : mayOpB p = false
        · rw [if_pos e] at this; cases this
        · simpa using e
theorem mayOp_read {o : OpM} (h : mayOpB o = true) (hr : o.read = true) : mayN o.key ∧ (∀ x ∈ o.list, mayN x) ∧ o.value = 0 := by
  unfold mayOpB at h
  rw [if_pos hr] at h
  simp at h
  exact ⟨mayB_iff.1 h.1.1, fun x hx => mayB_iff.1 (h.1.2 x hx), h.2⟩
theorem mayOp_app {o : OpM} (h : mayOpB o = true) (hr : o.read = false) : mayN o.key ∧ mayN o.value ∧ o.list = [] := by
  unfold mayOpB at h
  rw [if_neg (by simp [hr])] at h
  simp at h
  exact ⟨mayB_iff.1 h.1.1, mayB_iff.1 h.1.2, h.2⟩
end Go.Proofs.Ytofgfcebkmdhcaa.Hist

/- Plain mathematics of sets as rising lists: the set of a list, two sets together, what is in both or in the one alone, and how two lists stand. It imports nothing of the program. -/
namespace Go.Proofs.Ytofgfcebkmdhcaa.Sets
set_option linter.unusedVariables false
set_option linter.unusedSimpArgs false

/-- A strict total order. -/
structure Tot {α : Type} (lt : α → α → Bool) : Prop where
  irr : ∀ x, lt x x = false
  tr : ∀ x y z, lt x y = true → lt y z = true → lt x z = true
  tot : ∀ x y, lt x y = false → lt y x = false → x = y
def ltI (x y : Int) : Bool := decide (x < y)
def ltS (x y : List UInt8) : Bool := decide (x < y)
theorem totI : Tot ltI := ⟨fun x => by simp [ltI], fun x y z h1 h2 => by simp [ltI] at *; omega, fun x y h1 h2 => by simp [ltI] at *; omega⟩
theorem totS : Tot ltS := ⟨fun x => by simp [ltS, List.lt_irrefl], fun x y z h1 h2 => by simp only [ltS, decide_eq_true_eq] at *; exact List.lt_trans h1 h2, fun x y h1 h2 => by
  simp only [ltS, decide_eq_false_iff_not] at *
  exact List.le_antisymm (List.not_lt.1 h2) (List.not_lt.1 h1)⟩

section
variable {α : Type} {lt : α → α → Bool}
def Rising (lt : α → α → Bool) (l : List α) : Prop := l.Pairwise fun x y => lt x y = true
theorem Rising.nil : Rising lt [] := List.Pairwise.nil
theorem rising_cons {x : α} {l : List α} : Rising lt (x :: l) ↔ (∀ y ∈ l, lt x y = true) ∧ Rising lt l := List.pairwise_cons
theorem rising_append {l m : List α} : Rising lt (l ++ m) ↔ Rising lt l ∧ Rising lt m ∧ ∀ x ∈ l, ∀ y ∈ m, lt x y = true := List.pairwise_append
theorem Rising.sub {l m : List α} (h : Rising lt m) (s : l.Sublist m) : Rising lt l := List.Pairwise.sublist s h
theorem Tot.asym (T : Tot lt) {x y : α} (h : lt x y = true) : lt y x = false := by
  cases e : lt y x with
  | false => rfl
  | true => rw [← T.irr x, T.tr x y x h e]
theorem Tot.neq (T : Tot lt) {x y : α} (h : lt x y = true) : x ≠ y := fun e => by subst e; rw [T.irr] at h; cases h
theorem Tot.neg_tr (T : Tot lt) {x y z : α} (h : lt x y = true) (k : lt z y = false) : lt x z = true := by
  cases e : lt y z with
  | true => exact T.tr _ _ _ h e
  | false => rw [← T.tot _ _ e k]; exact h

/-- Two rising lists of the same things are one. -/
theorem rising_eq (T : Tot lt) : ∀ {s t : List α}, Rising lt s → Rising lt t → (∀ x, x ∈ s ↔ x ∈ t) → s = t
  | [], [], _, _, _ => rfl
  | [], y :: t, _, _, h => by have := (h y).2 (by simp); simp at this
  | x :: s, [], _, _, h => by have := (h x).1 (by simp); simp at this
  | x :: s, y :: t, hs, ht, h => by
    obtain ⟨hx, hs'⟩ := rising_cons.1 hs
    obtain ⟨hy, ht'⟩ := rising_cons.1 ht
    have e : x = y := by
      have h1 := (h x).1 (by simp)
      have h2 := (h y).2 (by simp)
      rcases List.mem_cons.1 h1 with e | h1
      · exact e
      rcases List.mem_cons.1 h2 with e | h2
      · exact e.symm
      have a := hy x h1
      rw [T.asym (hx y h2)] at a
      cases a
    subst e
    rw [rising_eq T hs' ht' fun z => ⟨fun hz => ?_, fun hz => ?_⟩]
    · rcases List.mem_cons.1 ((h z).1 (List.mem_cons_of_mem _ hz)) with e | q
      · subst e; exact absurd rfl (T.neq (hx z hz))
      · exact q
    · rcases List.mem_cons.1 ((h z).2 (List.mem_cons_of_mem _ hz)) with e | q
      · subst e; exact absurd rfl (T.neq (hy z hz))
      · exact q

/-- The set of a list. -/
def ins (lt : α → α → Bool) (x : α) : List α → List α
  | [] => [x]
  | y :: l => if lt x y then x :: y :: l else if lt y x then y :: ins lt x l else y :: l
def setL (lt : α → α → Bool) : List α → List α
  | [] => []
  | x :: l => ins lt x (setL lt l)
theorem mem_ins (T : Tot lt) (x : α) : ∀ (l : List α) (z : α), z ∈ ins lt x l ↔ z = x ∨ z ∈ l
  | [], z => by simp [ins]
  | y :: l, z => by
    unfold ins
    cases h1 : lt x y with
    | true => simp
    | false =>
      cases h2 : lt y x with
      | true => simp [mem_ins T x l z]; constructor <;> (intro h; rcases h with h | h | h <;> simp [h])
      | false => have := T.tot x y h1 h2; subst this; simp
theorem rising_ins (T : Tot lt) (x : α) : ∀ {l : List α}, Rising lt l → Rising lt (ins lt x l)
  | [], _ => by simp [ins, Rising]
  | y :: l, h => by
    obtain ⟨hy, hl⟩ := rising_cons.1 h
    unfold ins
    cases h1 : lt x y with
    | true => exact rising_cons.2 ⟨fun z hz => (List.mem_cons.1 hz).elim (fun e => e ▸ h1) (fun q => T.tr _ _ _ h1 (hy z q)), h⟩
    | false =>
      cases h2 : lt y x with
      | true =>
        refine rising_cons.2 ⟨fun z hz => ?_, rising_ins T x hl⟩
        rcases (mem_ins T x l z).1 hz with e | q
        · exact e ▸ h2
        · exact hy z q
      | false => exact h
theorem mem_setL (T : Tot lt) : ∀ (l : List α) (z : α), z ∈ setL lt l ↔ z ∈ l
  | [], z => by simp [setL]
  | x :: l, z => by simp [setL, mem_ins T, mem_setL T l]
theorem rising_setL (T : Tot lt) : ∀ l : List α, Rising lt (setL lt l)
  | [] => Rising.nil
  | x :: l => rising_ins T x (rising_setL T l)
theorem setL_unique (T : Tot lt) {s l : List α} (h : Rising lt s) (k : ∀ x, x ∈ s ↔ x ∈ l) : s = setL lt l := rising_eq T h (rising_setL T l) fun x => by rw [k, mem_setL T]
theorem setL_congr (T : Tot lt) {l m : List α} (k : ∀ x, x ∈ l ↔ x ∈ m) : setL lt l = setL lt m := setL_unique T (rising_setL T l) fun x => by rw [mem_setL T, k]
theorem setL_rising (T : Tot lt) {s : List α} (h : Rising lt s) : setL lt s = s := (setL_unique T h fun _ => Iff.rfl).symm
theorem ins_length (x : α) : ∀ l : List α, (ins lt x l).length ≤ l.length + 1
  | [] => by simp [ins]
  | y :: l => by
    unfold ins
    have := ins_length x l
    split
    · simp
    · split
      · simp; omega
      · simp
theorem setL_length : ∀ l : List α, (setL lt l).length ≤ l.length
  | [] => by simp [setL]
  | x :: l => by have := ins_length (lt := lt) x (setL lt l); have := setL_length l; simp [setL]; omega

/-- Two sets together, as the program goes about it: one thing of the first laid in ahead of what is left of the second. -/
def orIn (lt : α → α → Bool) (x : α) : List α → List α → List α × List α
  | l, [] => (l ++ [x], [])
  | l, r :: rest => if lt r x then orIn lt x (l ++ [r]) rest else if lt x r then (l ++ [x], r :: rest) else (l ++ [x], rest)
def orS (lt : α → α → Bool) (t pre : List α) : List α × List α := pre.foldl (fun p x => orIn lt x p.1 p.2) ([], t)
def orL (lt : α → α → Bool) (s t : List α) : List α := (orS lt t s).1 ++ (orS lt t s).2
theorem orS_snoc (t pre : List α) (x : α) : orS lt t (pre ++ [x]) = orIn lt x (orS lt t pre).1 (orS lt t pre).2 := by simp [orS]
theorem orIn_length (x : α) : ∀ (rest l : List α), (orIn lt x l rest).1.length + (orIn lt x l rest).2.length ≤ l.length + rest.length + 1
  | [], l => by simp [orIn]
  | r :: rest, l => by
    unfold orIn
    have := orIn_length x rest (l ++ [r])
    simp at this
    split
    · simp; omega
    · split <;> simp <;> omega
theorem orS_length (t : List α) : ∀ pre : List α, (orS lt t pre).1.length + (orS lt t pre).2.length ≤ pre.length + t.length := by
  intro pre
  induction h : pre.length generalizing pre with
  | zero => obtain rfl : pre = [] := List.eq_nil_of_length_eq_zero h; simp [orS]
  | succ n ih =>
    rcases List.eq_nil_or_concat pre with rfl | ⟨q, x, rfl⟩
    · simp at h
    · rw [List.concat_eq_append] at h ⊢
      have hq : q.length = n := by simpa using h
      have := ih q hq
      have := orIn_length (lt := lt) x (orS lt t q).2 (orS lt t q).1
      rw [orS_snoc]
      omega
structure OrOk (lt : α → α → Bool) (l rest : List α) : Prop where
  one : Rising lt l
  two : Rising lt rest
  less : ∀ y ∈ l, ∀ z ∈ rest, lt y z = true
theorem orIn_ok (T : Tot lt) (x : α) : ∀ (rest l : List α), OrOk lt l rest → (∀ y ∈ l, lt y x = true) →
    OrOk lt (orIn lt x l rest).1 (orIn lt x l rest).2 ∧ (∀ y ∈ (orIn lt x l rest).1, y = x ∨ lt y x = true) ∧ ∀ z, (z ∈ (orIn lt x l rest).1 ∨ z ∈ (orIn lt x l rest).2) ↔ z = x ∨ z ∈ l ∨ z ∈ rest
  | [], l, h, hx => by
    refine ⟨⟨rising_append.2 ⟨h.one, by simp [Rising], fun y hy z hz => by simp at hz; subst hz; exact hx y hy⟩, Rising.nil, fun y _ z hz => by simp [orIn] at hz⟩, ?_, ?_⟩
    · intro y hy; simp [orIn] at hy; rcases hy with q | q
      · exact .inr (hx y q)
      · exact .inl q
    · intro z; simp [orIn]; constructor <;> (intro q; rcases q with q | q <;> simp [q])
  | r :: rest, l, h, hx => by
    obtain ⟨hr, hrest⟩ := rising_cons.1 h.two
    unfold orIn
    cases h1 : lt r x with
    | true =>
      have := orIn_ok T x rest (l ++ [r]) ⟨rising_append.2 ⟨h.one, by simp [Rising], fun y hy z hz => by simp at hz; subst hz; exact h.less y hy _ (by simp)⟩, hrest, fun y hy z hz => by
        rcases List.mem_append.1 hy with q | q
        · exact h.less y q z (by simp [hz])
        · simp at q; subst q; exact hr z hz⟩ (fun y hy => by
        rcases List.mem_append.1 hy with q | q
        · exact hx y q
        · simp at q; subst q; exact h1)
      simp only [if_true]
      refine ⟨this.1, this.2.1, fun z => ?_⟩
      rw [this.2.2 z]
      simp only [List.mem_append, List.mem_cons, List.not_mem_nil, or_false]
      grind
    | false =>
      have hxr : ∀ z ∈ rest, lt x z = true := fun z hz => by
        cases e : lt x r with
        | true => exact T.tr _ _ _ e (hr z hz)
        | false => rw [T.tot x r e h1]; exact hr z hz
      cases h2 : lt x r with
      | true =>
        simp only [if_true, Bool.false_eq_true, if_false]
        refine ⟨⟨rising_append.2 ⟨h.one, by simp [Rising], fun y hy z hz => by simp at hz; subst hz; exact hx y hy⟩, h.two, fun y hy z hz => ?_⟩, fun y hy => ?_, fun z => ?_⟩
        · have xz : lt x z = true := (List.mem_cons.1 hz).elim (fun e => e ▸ h2) (fun q => hxr z q)
          rcases List.mem_append.1 hy with q | q
          · exact T.tr _ _ _ (hx y q) xz
          · simp at q; subst q; exact xz
        · rcases List.mem_append.1 hy with q | q
          · exact .inr (hx y q)
          · simp at q; exact .inl q
        · simp only [List.mem_append, List.mem_cons, List.not_mem_nil, or_false]
          grind
      | false =>
        have e := T.tot x r h2 h1
        subst e
        simp only [Bool.false_eq_true, if_false]
        refine ⟨⟨rising_append.2 ⟨h.one, by simp [Rising], fun y hy z hz => by simp at hz; subst hz; exact hx y hy⟩, hrest, fun y hy z hz => ?_⟩, fun y hy => ?_, fun z => ?_⟩
        · rcases List.mem_append.1 hy with q | q
          · exact T.tr _ _ _ (hx y q) (hxr z hz)
          · simp at q; subst q; exact hxr z hz
        · rcases List.mem_append.1 hy with q | q
          · exact .inr (hx y q)
          · simp at q; exact .inl q
        · simp only [List.mem_append, List.mem_cons, List.not_mem_nil, or_false]
          grind
theorem orS_ok (T : Tot lt) (t : List α) (ht : Rising lt t) : ∀ (s pre : List α), Rising lt s → OrOk lt (orS lt t pre).1 (orS lt t pre).2 → (∀ y ∈ (orS lt t pre).1, ∀ z ∈ s, lt y z = true) → (∀ z, (z ∈ (orS lt t pre).1 ∨ z ∈ (orS lt t pre).2) ↔ z ∈ pre ∨ z ∈ t) →
    OrOk lt (orS lt t (pre ++ s)).1 (orS lt t (pre ++ s)).2 ∧ ∀ z, (z ∈ (orS lt t (pre ++ s)).1 ∨ z ∈ (orS lt t (pre ++ s)).2) ↔ z ∈ pre ++ s ∨ z ∈ t
  | [], pre, _, h, _, hm => by rw [List.append_nil]; exact ⟨h, hm⟩
  | x :: s, pre, hs, h, hl, hm => by
    obtain ⟨hx, hs'⟩ := rising_cons.1 hs
    obtain ⟨g1, g2, g3⟩ := orIn_ok T x _ _ h (fun y hy => hl y hy x (by simp))
    rw [← orS_snoc] at g1 g2 g3
    have := orS_ok T t ht s (pre ++ [x]) hs' g1 (fun y hy z hz => (g2 y hy).elim (fun e => e ▸ hx z hz) (fun q => T.tr _ _ _ q (hx z hz))) (fun z => by
      rw [g3 z, or_congr Iff.rfl (hm z)]
      simp only [List.mem_append, List.mem_cons, List.not_mem_nil, or_false]
      grind)
    rw [List.append_assoc] at this
    exact this
/-- Two sets, gone through together, are the set of both lists. -/
theorem orL_eq (T : Tot lt) {s t : List α} (hs : Rising lt s) (ht : Rising lt t) : orL lt s t = setL lt (s ++ t) := by
  obtain ⟨g, m⟩ := orS_ok T t ht s [] hs ⟨Rising.nil, ht, fun y hy => by simp [orS] at hy⟩ (fun y hy => by simp [orS] at hy) (fun z => by simp [orS])
  rw [List.nil_append] at g m
  refine setL_unique T (rising_append.2 ⟨g.one, g.two, g.less⟩) fun z => ?_
  rw [orL, List.mem_append, m z, List.mem_append]
/-- A part of a set is a set. -/
theorem rising_filter {s : List α} (h : Rising lt s) (p : α → Bool) : Rising lt (s.filter p) := h.sub List.filter_sublist
/-- What of a set is not below something. -/
theorem drop_count (T : Tot lt) (x : α) : ∀ {s : List α}, Rising lt s → s.drop (s.countP fun y => lt y x) = s.dropWhile fun y => lt y x
  | [], _ => by simp
  | y :: s, h => by
    obtain ⟨hy, hs⟩ := rising_cons.1 h
    cases e : lt y x with
    | true => rw [List.countP_cons_of_pos (by simpa using e), List.drop_succ_cons, drop_count T x hs, List.dropWhile_cons_of_pos (by simpa using e)]
    | false =>
      have h0 : s.countP (fun y => lt y x) = 0 := List.countP_eq_zero.2 fun z hz q => by
        have q' : lt z x = true := q
        have := T.tr _ _ _ (hy z hz) q'
        rw [e] at this; cases this
      rw [List.countP_cons_of_neg (by simp [e]), h0, List.drop_zero, List.dropWhile_cons_of_neg (by simp [e])]
end

section
variable {α : Type} [Inhabited α] [DecidableEq α] {lt : α → α → Bool}
/-- A list in order, of whose neighbours that are alike one stays, is the set of it. -/
theorem compactUpTo_set (T : Tot lt) (d : Array α) (hd : ∀ i j, i ≤ j → j < d.size → lt d[j]! d[i]! = false) : ∀ m, m ≤ d.size →
    Rising lt (Lib.compactUpTo d m) ∧ (∀ x ∈ Lib.compactUpTo d m, ∃ j, j < m ∧ d[j]! = x) ∧ ∀ j, j < m → d[j]! ∈ Lib.compactUpTo d m
  | 0, _ => ⟨by simp [Lib.compactUpTo, Rising], by simp [Lib.compactUpTo], by omega⟩
  | m + 1, hm => by
    obtain ⟨h1, h2, h3⟩ := compactUpTo_set T d hd m (by omega)
    rw [Lib.compactUpTo_succ]
    cases hk : Lib.keeps d m with
    | true =>
      simp only [if_true]
      refine ⟨rising_append.2 ⟨h1, by simp [Rising], fun x hx z hz => ?_⟩, fun x hx => ?_, fun j hj => ?_⟩
      · simp at hz; subst hz
        obtain ⟨j, hj, rfl⟩ := h2 x hx
        have hne : d[m]! ≠ d[m - 1]! := by
          have := of_decide_eq_true hk
          rcases this with q | q
          · omega
          · exact q
        have q1 : lt d[m - 1]! d[m]! = true := by
          cases e : lt d[m - 1]! d[m]! with
          | true => rfl
          | false => exact absurd (T.tot _ _ (hd (m - 1) m (by omega) (by omega)) e) hne
        cases e : lt d[j]! d[m]! with
        | true => rfl
        | false =>
          have := T.neg_tr q1 e
          rw [hd j (m - 1) (by omega) (by omega)] at this
          cases this
      · rcases List.mem_append.1 hx with q | q
        · obtain ⟨j, hj, e⟩ := h2 x q; exact ⟨j, by omega, e⟩
        · simp at q; exact ⟨m, by omega, q.symm⟩
      · by_cases e : j = m
        · subst e; simp
        · exact List.mem_append_left _ (h3 j (by omega))
    | false =>
      simp only [Bool.false_eq_true, if_false, List.append_nil]
      refine ⟨h1, fun x hx => ?_, fun j hj => ?_⟩
      · obtain ⟨j, hj, e⟩ := h2 x hx; exact ⟨j, by omega, e⟩
      · by_cases e : j = m
        · subst e
          have := of_decide_eq_false hk
          have h0 : ¬ j = 0 := fun q => this (.inl q)
          have he : d[j]! = d[j - 1]! := by
            by_cases q : d[j]! = d[j - 1]!
            · exact q
            · exact absurd (.inr q) this
          rw [he]
          exact h3 (j - 1) (by omega)
        · exact h3 j (by omega)
theorem compact_set (T : Tot lt) {zs : List α} (hd : zs.Pairwise fun x y => lt y x = false) : Lib.compact zs = setL lt zs := by
  have hp := List.pairwise_iff_getElem.1 hd
  obtain ⟨h1, h2, h3⟩ := compactUpTo_set T zs.toArray (fun i j hij hj => by
    have hj' : j < zs.length := by simpa using hj
    rcases Nat.lt_or_ge i j with q | q
    · simpa [getElem!_pos, hj', Nat.lt_trans q hj'] using hp i j (by omega) hj' q
    · obtain rfl : i = j := by omega
      exact T.irr _) zs.length (by simp)
  refine setL_unique T h1 fun x => ⟨fun hx => ?_, fun hx => ?_⟩
  · obtain ⟨j, hj, e⟩ := h2 x hx
    rw [← e]
    simp [getElem!_pos, hj]
  · obtain ⟨j, hj, e⟩ := List.getElem_of_mem hx
    have := h3 j hj
    rw [show zs.toArray[j]! = x by simp [getElem!_pos, hj, e]] at this
    exact this
end
/-- The shelf's sort, and one of neighbours that are alike kept, gives the set. -/
theorem sort_set_int (zs : List Int) : Lib.compact (zs.mergeSort fun x y => decide (x ≤ y)) = setL ltI zs := by
  rw [compact_set totI ((List.pairwise_mergeSort (le := fun x y : Int => decide (x ≤ y)) (fun a b c h1 h2 => by simp at *; omega) (fun a b => by simp; omega) zs).imp fun h => by simp [ltI] at *; omega)]
  exact setL_congr totI fun x => List.mem_mergeSort
theorem sort_set_str (zs : List (List UInt8)) : Lib.compact (zs.mergeSort fun x y => decide (x ≤ y)) = setL ltS zs := by
  rw [compact_set totS ((List.pairwise_mergeSort (le := fun x y : List UInt8 => decide (x ≤ y)) (fun a b c h1 h2 => by simp only [decide_eq_true_eq] at *; exact List.le_trans h1 h2) (fun a b => by simp only [Bool.or_eq_true, decide_eq_true_eq]; exact List.le_total a b) zs).imp fun h => by
    simp only [ltS, decide_eq_true_eq, decide_eq_false_iff_not] at *
    exact List.not_lt.2 h)]
  exact setL_congr totS fun x => List.mem_mergeSort

/-- How two numbers, two lists of one length, and two lists stand. -/
def cmpI (x y : Int) : Int := if x < y then -1 else if y < x then 1 else 0
def lexL {α : Type} (lt : α → α → Bool) : List α → List α → Int
  | x :: a, y :: b => if lt x y then -1 else if lt y x then 1 else lexL lt a b
  | _, _ => 0
def cmpL {α : Type} (lt : α → α → Bool) (a b : List α) : Int := if a.length < b.length then -1 else if b.length < a.length then 1 else lexL lt a b
section
variable {α : Type} {lt : α → α → Bool}
theorem lexL_swap (T : Tot lt) : ∀ a b : List α, lexL lt b a = - lexL lt a b
  | [], [] => rfl
  | [], _ :: _ => rfl
  | _ :: _, [] => rfl
  | x :: a, y :: b => by
    unfold lexL
    cases h1 : lt x y with
    | true => simp [T.asym h1]
    | false => cases h2 : lt y x with
      | true => simp
      | false => simpa using lexL_swap T a b
theorem lexL_three : ∀ a b : List α, lexL lt a b = -1 ∨ lexL lt a b = 0 ∨ lexL lt a b = 1
  | [], [] => .inr (.inl rfl)
  | [], _ :: _ => .inr (.inl rfl)
  | _ :: _, [] => .inr (.inl rfl)
  | x :: a, y :: b => by
    unfold lexL
    split
    · exact .inl rfl
    · split
      · exact .inr (.inr rfl)
      · exact lexL_three a b
theorem lexL_self (T : Tot lt) : ∀ a : List α, lexL lt a a = 0
  | [] => rfl
  | x :: a => by unfold lexL; simp [T.irr, lexL_self T a]
theorem lexL_zero (T : Tot lt) : ∀ {a b : List α}, a.length = b.length → lexL lt a b = 0 → a = b
  | [], [], _, _ => rfl
  | [], _ :: _, h, _ => by simp at h
  | _ :: _, [], h, _ => by simp at h
  | x :: a, y :: b, h, k => by
    unfold lexL at k
    cases h1 : lt x y with
    | true => simp [h1] at k
    | false => cases h2 : lt y x with
      | true => simp [h1, h2] at k
      | false =>
        simp [h1, h2] at k
        rw [T.tot x y h1 h2, lexL_zero T (by simpa using h) k]
theorem lexL_tr (T : Tot lt) : ∀ {a b c : List α}, a.length = b.length → b.length = c.length → lexL lt a b ≤ 0 → lexL lt b c ≤ 0 → lexL lt a c ≤ 0
  | [], [], [], _, _, _, _ => by simp [lexL]
  | [], [], _ :: _, _, h, _, _ => by simp at h
  | [], _ :: _, _, h, _, _, _ => by simp at h
  | _ :: _, [], _, h, _, _, _ => by simp at h
  | _ :: _, _ :: _, [], _, h, _, _ => by simp at h
  | x :: a, y :: b, z :: c, h, k, p, q => by
    unfold lexL at p q ⊢
    cases h1 : lt x y with
    | true =>
      cases h3 : lt y z with
      | true => simp [T.tr _ _ _ h1 h3]
      | false => cases h4 : lt z y with
        | true => simp [h3, h4] at q
        | false => rw [← T.tot y z h3 h4]; simp [h1]
    | false => cases h2 : lt y x with
      | true => simp [h1, h2] at p
      | false =>
        have e := T.tot x y h1 h2
        subst e
        simp [h1] at p
        cases h3 : lt x z with
        | true => simp
        | false => cases h4 : lt z x with
          | true => simp [h3, h4] at q
          | false =>
            simp [h3, h4] at q ⊢
            exact lexL_tr T (by simpa using h) (by simpa using k) p q
theorem cmpL_swap (T : Tot lt) (a b : List α) : cmpL lt b a = 0 - cmpL lt a b := by
  unfold cmpL
  have := lexL_swap T a b
  split <;> split <;> omega
theorem cmpL_three (a b : List α) : cmpL lt a b = -1 ∨ cmpL lt a b = 0 ∨ cmpL lt a b = 1 := by
  unfold cmpL
  have := lexL_three (lt := lt) a b
  split
  · exact .inl rfl
  · split
    · exact .inr (.inr rfl)
    · exact this
theorem cmpL_self (T : Tot lt) (a : List α) : cmpL lt a a = 0 := by simp [cmpL, lexL_self T]
theorem cmpL_zero (T : Tot lt) {a b : List α} (h : cmpL lt a b = 0) : a = b := by
  unfold cmpL at h
  split at h
  · cases h
  · split at h
    · cases h
    · exact lexL_zero T (by omega) h
theorem cmpL_tr (T : Tot lt) {a b c : List α} (h : cmpL lt a b ≤ 0) (k : cmpL lt b c ≤ 0) : cmpL lt a c ≤ 0 := by
  unfold cmpL at *
  split at h
  · split at k
    · split <;> omega
    · split at k
      · omega
      · rw [if_pos (by omega)]; decide
  · split at h
    · omega
    · split at k
      · rw [if_pos (by omega)]; decide
      · split at k
        · omega
        · rw [if_neg (by omega), if_neg (by omega)]
          exact lexL_tr T (by omega) (by omega) h k
end
end Go.Proofs.Ytofgfcebkmdhcaa.Sets

/- Plain mathematics of the table: what a history says, gone through in order; and as the document has it. -/
namespace Go.Proofs.Ytofgfcebkmdhcaa.Tab
open Go.Proofs.Ytofgfcebkmdhcaa.Mem Go.Proofs.Ytofgfcebkmdhcaa.Hist Go.Proofs.Ytofgfcebkmdhcaa.Sets
set_option linter.unusedVariables false
set_option linter.unusedSimpArgs false

structure Spot where
  id : Int
  op : Nat
  ab : Bool
  o : OpM
structure RdM where
  txn : Int
  op : Nat
  key : Int
  list : List Int
  own : List Int
structure WrM where
  txn : Int
  op : Nat
  key : Int
  value : Int
  ab : Bool
def spotsOf (t : TxnM) : List Spot := t.ops.zipIdx.map fun p => ⟨t.id, p.2, t.ab, p.1⟩
def flat (us : List TxnM) : List Spot := us.flatMap spotsOf
def isApp (p : Int × Int) (s : Spot) : Bool := !s.o.read && s.id == p.1 && s.o.key == p.2
def appsP (pre : List Spot) (p : Int × Int) : List Int := (pre.filter (isApp p)).map (·.o.value)
def isVal (p : Int × Int) (s : Spot) : Bool := !s.o.read && s.o.key == p.1 && s.o.value == p.2
def wrOf (s : Spot) : WrM := ⟨s.id, s.op, s.o.key, s.o.value, s.ab⟩
def writerP (pre : List Spot) (p : Int × Int) : Option WrM := ((pre.filter (isVal p)).map wrOf).getLast?
def isWr (key : Int) (s : Spot) : Bool := !s.o.read && !s.ab && s.o.key == key
def writesP (pre : List Spot) (key : Int) : List WrM := (pre.filter (isWr key)).map wrOf
def isRd (key : Int) (s : Spot) : Bool := s.o.read && !s.ab && s.o.key == key
def rdOf (done : List Spot) (s : Spot) : RdM := ⟨s.id, s.op, s.o.key, s.o.list, appsP done (s.id, s.o.key)⟩
def readsG : List Spot → List Spot → Int → List RdM
  | _, [], _ => []
  | done, x :: r, k => (if isRd k x = true then [rdOf done x] else []) ++ readsG (done ++ [x]) r k
def readsP (pre : List Spot) (k : Int) : List RdM := readsG [] pre k

section
variable {pre : List Spot} {x : Spot} {p : Int × Int} {k : Int}
theorem appsP_hit (h : isApp p x = true) : appsP (pre ++ [x]) p = appsP pre p ++ [x.o.value] := by simp [appsP, List.filter_cons, h]
theorem appsP_miss (h : isApp p x = false) : appsP (pre ++ [x]) p = appsP pre p := by simp [appsP, List.filter_cons, h]
theorem writerP_hit (h : isVal p x = true) : writerP (pre ++ [x]) p = some (wrOf x) := by simp [writerP, List.filter_cons, h]
theorem writerP_miss (h : isVal p x = false) : writerP (pre ++ [x]) p = writerP pre p := by simp [writerP, List.filter_cons, h]
theorem writesP_hit (h : isWr k x = true) : writesP (pre ++ [x]) k = writesP pre k ++ [wrOf x] := by simp [writesP, List.filter_cons, h]
theorem writesP_miss (h : isWr k x = false) : writesP (pre ++ [x]) k = writesP pre k := by simp [writesP, List.filter_cons, h]
theorem readsG_app : ∀ (done a b : List Spot) (k : Int), readsG done (a ++ b) k = readsG done a k ++ readsG (done ++ a) b k
  | done, [], b, k => by simp [readsG]
  | done, x :: a, b, k => by rw [List.cons_append, readsG, readsG, readsG_app (done ++ [x]) a b k]; simp
theorem readsP_hit (h : isRd k x = true) : readsP (pre ++ [x]) k = readsP pre k ++ [rdOf pre x] := by rw [readsP, readsG_app]; simp [readsG, h, readsP]
theorem readsP_miss (h : isRd k x = false) : readsP (pre ++ [x]) k = readsP pre k := by rw [readsP, readsG_app]; simp [readsG, h, readsP]
theorem appsP_le (pre : List Spot) (p : Int × Int) : (appsP pre p).length ≤ pre.length := by simp only [appsP, List.length_map]; exact List.length_filter_le _ _
theorem writesP_le (pre : List Spot) (k : Int) : (writesP pre k).length ≤ pre.length := by simp only [writesP, List.length_map]; exact List.length_filter_le _ _
theorem readsG_le : ∀ (done a : List Spot) (k : Int), (readsG done a k).length ≤ a.length
  | _, [], _ => by simp [readsG]
  | done, x :: a, k => by
    have := readsG_le (done ++ [x]) a k
    rw [readsG]
    split <;> simp <;> omega
theorem readsP_le (pre : List Spot) (k : Int) : (readsP pre k).length ≤ pre.length := readsG_le _ _ _
end

/-! ### The document -/
def docIds (ts : List TxnM) : List Int := setL ltI ((ts.filter fun t => !t.ab).map (·.id))
def keysOf (ts : List TxnM) : List Int := ts.flatMap fun t => t.ops.map (·.key)
def docKeys (ts : List TxnM) : List Int := setL ltI (keysOf ts)
def docTxn (ts : List TxnM) (id : Int) : TxnM := (ts.find? fun t => t.id == id).getD ⟨id, false, []⟩
def aheadL (os : List OpM) (key : Int) : List Int := (os.filter fun o => !o.read && o.key == key).map (·.value)
def docApps (ts : List TxnM) (id key : Int) : List Int := aheadL (docTxn ts id).ops key
def docWriter (ts : List TxnM) (p : Int × Int) : Option WrM := ((flat ts).find? (isVal p)).map wrOf
def docRd (t : TxnM) (key : Int) : List RdM := (t.ops.zipIdx.filter fun p => p.1.read && p.1.key == key).map fun p => ⟨t.id, p.2, key, p.1.list, aheadL (t.ops.take p.2) key⟩
def docReads (ts : List TxnM) (key : Int) : List RdM := (docIds ts).flatMap fun id => docRd (docTxn ts id) key
def docWr (t : TxnM) (key : Int) : List WrM := (t.ops.zipIdx.filter fun p => !p.1.read && p.1.key == key).map fun p => ⟨t.id, p.2, key, p.1.value, false⟩
def docWrites (ts : List TxnM) (key : Int) : List WrM := (docIds ts).flatMap fun id => docWr (docTxn ts id) key

/-! ### In order -/
def Ord (ts us : List TxnM) : Prop := us.Perm ts ∧ us.Pairwise fun a b => a.id < b.id
def idsOf (us : List TxnM) : List Int := (us.filter fun t => !t.ab).map (·.id)
section
variable {ts us : List TxnM}
theorem ids_ord (h : Ord ts us) : idsOf us = docIds ts := by
  refine rising_eq totI ?_ (rising_setL totI _) fun x => ?_
  · unfold idsOf Rising
    rw [List.pairwise_map]
    exact (h.2.sublist List.filter_sublist).imp fun q => by simpa [ltI] using q
  · rw [docIds, mem_setL totI]
    exact ((h.1.filter _).map _).mem_iff
def mkS (t : TxnM) (n : Nat) (os : List OpM) : List Spot := (os.zipIdx n).map fun p => ⟨t.id, p.2, t.ab, p.1⟩
theorem spots_mk (t : TxnM) : spotsOf t = mkS t 0 t.ops := rfl
theorem mk_cons (t : TxnM) (n : Nat) (o : OpM) (os : List OpM) : mkS t n (o :: os) = ⟨t.id, n, t.ab, o⟩ :: mkS t (n + 1) os := by simp [mkS]
theorem mk_nil (t : TxnM) (n : Nat) : mkS t n [] = [] := rfl
theorem mk_append (t : TxnM) : ∀ (n : Nat) (a b : List OpM), mkS t n (a ++ b) = mkS t n a ++ mkS t (n + a.length) b
  | n, [], b => by simp [mk_nil]
  | n, o :: a, b => by rw [List.cons_append, mk_cons, mk_cons, mk_append t (n + 1) a b, List.cons_append, List.length_cons, Nat.add_right_comm, Nat.add_assoc]
theorem mk_len (t : TxnM) (n : Nat) (os : List OpM) : (mkS t n os).length = os.length := by simp [mkS]
theorem mk_ops (t : TxnM) : ∀ (n : Nat) (os : List OpM), (mkS t n os).map (·.o) = os
  | _, [] => rfl
  | n, o :: os => by rw [mk_cons, List.map_cons, mk_ops t (n + 1) os]
theorem mk_id (t : TxnM) : ∀ (n : Nat) (os : List OpM), ∀ s ∈ mkS t n os, s.id = t.id ∧ s.ab = t.ab
  | _, [], s, hs => by simp [mk_nil] at hs
  | n, o :: os, s, hs => by
    rw [mk_cons] at hs
    rcases List.mem_cons.1 hs with rfl | hs
    · exact ⟨rfl, rfl⟩
    · exact mk_id t (n + 1) os s hs
theorem flat_append (a b : List TxnM) : flat (a ++ b) = flat a ++ flat b := by simp [flat]
theorem flat_cons (t : TxnM) (us : List TxnM) : flat (t :: us) = mkS t 0 t.ops ++ flat us := by simp [flat, spots_mk]
theorem flat_len : ∀ us : List TxnM, (flat us).length = opsN us
  | [] => rfl
  | t :: us => by rw [flat_cons, List.length_append, mk_len, flat_len us]; simp [opsN]
theorem flat_keys : ∀ us : List TxnM, (flat us).map (·.o.key) = keysOf us
  | [] => rfl
  | t :: us => by
    have e : (mkS t 0 t.ops).map (·.o.key) = t.ops.map (·.key) := by
      have := congrArg (List.map fun o : OpM => o.key) (mk_ops t 0 t.ops)
      rw [List.map_map] at this
      exact this
    rw [flat_cons, List.map_append, e, flat_keys us]
    simp [keysOf]
theorem keys_ord (h : Ord ts us) : setL ltI ((flat us).map (·.o.key)) = docKeys ts := by
  refine setL_congr totI fun x => ?_
  rw [flat_keys]
  exact (h.1.flatMap_right _).mem_iff
/-- No two with one number, and no value twice to a key. -/
structure Uq (ts : List TxnM) : Prop where
  ids : ts.Pairwise fun a b => a.id ≠ b.id
  vals : ∀ p, ((flat ts).filter (isVal p)).length ≤ 1
theorem any_flat (ts : List TxnM) (p : Int × Int) : (flat ts).any (isVal p) = appB ts p.1 p.2 := by
  have e : ∀ (t : TxnM) (n : Nat) (os : List OpM), (mkS t n os).any (isVal p) = os.any fun o => !o.read && o.key == p.1 && o.value == p.2 := fun t n os => by
    induction os generalizing n with
    | nil => rfl
    | cons o os ih => rw [mk_cons, List.any_cons, List.any_cons, ih]; rfl
  induction ts with
  | nil => rfl
  | cons t ts ih => rw [flat_cons, List.any_append, e, ih]; simp [appB]
theorem valid_uq {ts : List TxnM} (h : Valid ts) : Uq ts := by
  induction h with
  | nil => exact ⟨List.Pairwise.nil, fun p => by simp [flat]⟩
  | @txn ts id ab h hl hi ht ih =>
    refine ⟨List.pairwise_append.2 ⟨ih.ids, by simp, fun a ha b hb => ?_⟩, fun p => ?_⟩
    · simp only [List.mem_singleton] at hb
      subst hb
      intro e
      have := List.any_eq_false.1 ht a ha
      simp [e] at this
    · have : flat (ts ++ [⟨id, ab, []⟩]) = flat ts := by rw [flat_append, flat_cons]; simp [mk_nil, flat]
      rw [this]
      exact ih.vals p
  | @op ts o h hts ho ih =>
    obtain ⟨qs, t, rfl⟩ : ∃ qs t, ts = qs ++ [t] := ⟨ts.dropLast, ts.getLast hts, (List.dropLast_concat_getLast hts).symm⟩
    rw [addOp_at]
    have hi := ih.ids
    refine ⟨?_, fun p => ?_⟩
    · rw [List.pairwise_append] at hi ⊢
      exact ⟨hi.1, by simp, fun a ha b hb => by simp only [List.mem_singleton] at hb; subst hb; exact hi.2.2 a ha t (by simp)⟩
    · have e : flat (qs ++ [⟨t.id, t.ab, t.ops ++ [o]⟩]) = flat (qs ++ [t]) ++ [⟨t.id, t.ops.length, t.ab, o⟩] := by
        rw [flat_append, flat_append, flat_cons, flat_cons, List.append_assoc]
        congr 1
        have := mk_append t 0 t.ops [o]
        rw [mk_cons, mk_nil, Nat.zero_add] at this
        simp only [flat, List.flatMap_nil, List.append_nil]
        exact this
      rw [e, List.filter_append, List.length_append]
      have hv := ih.vals p
      by_cases hp : isVal p ⟨t.id, t.ops.length, t.ab, o⟩ = true
      · have hr : o.read = false ∧ o.key = p.1 ∧ o.value = p.2 := by simpa [isVal, and_assoc] using hp
        have h0 : (flat (qs ++ [t])).filter (isVal p) = [] := by
          rw [List.filter_eq_nil_iff]
          have h1 : appB (qs ++ [t]) p.1 p.2 = false := by
            rcases ho.2 with q | q
            · rw [hr.1] at q; exact absurd q.1 (by simp)
            · rw [← hr.2.1, ← hr.2.2]; exact q.2.2.2
          rw [← any_flat] at h1
          intro s hs
          simpa using List.any_eq_false.1 h1 s hs
        rw [h0]
        simp [List.filter_cons, hp]
      · rw [List.filter_cons, if_neg hp]
        simpa using hv
theorem perm_one {α : Type} {a b : List α} (h : a.Perm b) (hb : b.length ≤ 1) : a = b := by
  match b, hb with
  | [], _ => exact h.eq_nil
  | [x], _ => exact List.perm_singleton.1 h
theorem find_head {α : Type} (f : α → Bool) : ∀ l : List α, l.find? f = (l.filter f).head?
  | [] => rfl
  | x :: l => by
    rw [List.find?_cons, List.filter_cons]
    cases h : f x
    · exact (find_head f l).trans (by simp)
    · simp
theorem writer_ord (h : Ord ts us) (u : Uq ts) (p : Int × Int) : writerP (flat us) p = docWriter ts p := by
  have e : (flat us).filter (isVal p) = (flat ts).filter (isVal p) := perm_one ((h.1.flatMap_right _).filter _) (u.vals p)
  have hl := u.vals p
  rw [writerP, docWriter, e, find_head]
  match (flat ts).filter (isVal p), hl with
  | [], _ => rfl
  | [x], _ => rfl
theorem docTxn_of (u : Uq ts) {t : TxnM} (ht : t ∈ ts) : docTxn ts t.id = t := by
  have : ts.find? (fun x => x.id == t.id) = some t := by
    have hi := u.ids
    clear u
    induction ts with
    | nil => simp at ht
    | cons a ts ih =>
      obtain ⟨h1, h2⟩ := List.pairwise_cons.1 hi
      rw [List.find?_cons]
      rcases List.mem_cons.1 ht with rfl | q
      · simp
      · rw [show (a.id == t.id) = false from by simpa using h1 t q]
        exact ih q h2
  rw [docTxn, this]
  rfl
theorem filter_other {us : List TxnM} {p : Int × Int} (h : ∀ t ∈ us, t.id ≠ p.1) : (flat us).filter (isApp p) = [] := by
  rw [List.filter_eq_nil_iff]
  intro s hs
  obtain ⟨t, ht, hs⟩ := List.mem_flatMap.1 hs
  rw [spots_mk] at hs
  have := (mk_id t _ _ s hs).1
  have := h t ht
  simp [isApp]
  intro _ e
  omega
theorem apps_mk (t : TxnM) (key : Int) : ∀ (n : Nat) (os : List OpM), appsP (mkS t n os) (t.id, key) = aheadL os key
  | _, [] => rfl
  | n, o :: os => by
    have ih := apps_mk t key (n + 1) os
    unfold appsP aheadL at *
    rw [mk_cons, List.filter_cons, List.filter_cons]
    have e : isApp (t.id, key) ⟨t.id, n, t.ab, o⟩ = (!o.read && o.key == key) := by simp [isApp]
    rw [e]
    split
    · rw [List.map_cons, List.map_cons, ih]
    · exact ih
theorem apps_append (a b : List Spot) (p : Int × Int) : appsP (a ++ b) p = appsP a p ++ appsP b p := by simp [appsP]
theorem apps_none {a : List Spot} {p : Int × Int} (h : a.filter (isApp p) = []) : appsP a p = [] := by simp [appsP, h]
theorem ne_of_pair {l r : List TxnM} {t : TxnM} (h : (l ++ t :: r).Pairwise fun a b => a.id < b.id) : (∀ x ∈ l, x.id ≠ t.id) ∧ ∀ x ∈ r, x.id ≠ t.id := by
  rw [List.pairwise_append] at h
  refine ⟨fun x hx => by have := h.2.2 x hx t (by simp); omega, fun x hx => by have := (List.pairwise_cons.1 h.2.1).1 x hx; omega⟩
theorem apps_ord (h : Ord ts us) (u : Uq ts) (id key : Int) : appsP (flat us) (id, key) = docApps ts id key := by
  by_cases hx : ∃ t ∈ us, t.id = id
  · obtain ⟨t, ht, rfl⟩ := hx
    have hd := docTxn_of u (h.1.mem_iff.1 ht)
    obtain ⟨l, r, rfl⟩ := List.append_of_mem ht
    obtain ⟨n1, n2⟩ := ne_of_pair h.2
    rw [flat_append, flat_cons, apps_append, apps_append, apps_none (filter_other (p := (t.id, key)) n1), apps_none (filter_other (p := (t.id, key)) n2), apps_mk]
    simp [docApps, hd]
  · have hn : ∀ t ∈ us, t.id ≠ (id, key).1 := fun t ht e => hx ⟨t, ht, e⟩
    rw [apps_none (filter_other hn)]
    have : ts.find? (fun t => t.id == id) = none := by
      rw [List.find?_eq_none]
      intro t ht
      simpa using fun e => hx ⟨t, h.1.mem_iff.2 ht, e⟩
    simp [docApps, docTxn, this, aheadL]
theorem writes_mk (t : TxnM) (key : Int) : ∀ (n : Nat) (os : List OpM), writesP (mkS t n os) key = if t.ab = true then [] else ((os.zipIdx n).filter fun p => !p.1.read && p.1.key == key).map fun p => ⟨t.id, p.2, key, p.1.value, false⟩
  | _, [] => by simp [mk_nil, writesP]
  | n, o :: os => by
    have ih := writes_mk t key (n + 1) os
    have e : isWr key ⟨t.id, n, t.ab, o⟩ = (!t.ab && (!o.read && o.key == key)) := by unfold isWr; cases o.read <;> cases t.ab <;> rfl
    unfold writesP at *
    rw [mk_cons, List.filter_cons, e, List.zipIdx_cons, List.filter_cons]
    by_cases ha : t.ab = true
    · rw [if_pos ha] at ih ⊢
      rw [if_neg (by simp [ha])]
      exact ih
    · simp only [Bool.not_eq_true] at ha
      rw [if_neg (show ¬ t.ab = true by simp [ha])] at ih ⊢
      simp only [ha, Bool.not_false, Bool.true_and]
      by_cases hk : (!o.read && o.key == key) = true
      · have hk2 : o.key = key := by simp at hk; exact hk.2
        rw [if_pos hk, if_pos hk, List.map_cons, List.map_cons, ih]
        simp [wrOf, ha, hk2]
      · rw [if_neg hk, if_neg hk]
        exact ih
theorem flatMap_same {β : Type} {f g : TxnM → List β} : ∀ {l : List TxnM}, (∀ t ∈ l, f t = g t) → l.flatMap f = l.flatMap g
  | [], _ => rfl
  | t :: l, h => by rw [List.flatMap_cons, List.flatMap_cons, h t (by simp), flatMap_same fun x hx => h x (List.mem_cons_of_mem _ hx)]
theorem flatMap_com {us : List TxnM} {β : Type} (f : TxnM → List β) : (us.flatMap fun t => if t.ab = true then [] else f t) = (us.filter fun t => !t.ab).flatMap f := by
  induction us with
  | nil => rfl
  | cons t us ih =>
    rw [List.flatMap_cons, ih, List.filter_cons]
    cases t.ab <;> simp
theorem writes_ord (h : Ord ts us) (u : Uq ts) (key : Int) : writesP (flat us) key = docWrites ts key := by
  have e1 : ∀ vs : List TxnM, writesP (flat vs) key = vs.flatMap fun t => if t.ab = true then [] else docWr t key := fun vs => by
    induction vs with
    | nil => rfl
    | cons t vs ih =>
      have := writes_mk t key 0 t.ops
      rw [flat_cons, List.flatMap_cons, ← ih, show (if t.ab = true then [] else docWr t key) = writesP (mkS t 0 t.ops) key from this.symm]
      simp [writesP]
  rw [e1, flatMap_com, docWrites, ← ids_ord h, idsOf, List.flatMap_map]
  exact flatMap_same fun t ht => by rw [docTxn_of u (h.1.mem_iff.1 (List.mem_filter.1 ht).1)]
theorem reads_mk (t : TxnM) (key : Int) (done : List Spot) (hd : done.filter (isApp (t.id, key)) = []) : ∀ (os ps : List OpM), readsG (done ++ mkS t 0 ps) (mkS t ps.length os) key =
    if t.ab = true then [] else ((os.zipIdx ps.length).filter fun p => p.1.read && p.1.key == key).map fun p => ⟨t.id, p.2, key, p.1.list, aheadL ((ps ++ os).take p.2) key⟩
  | [], ps => by simp [mk_nil, readsG]
  | o :: os, ps => by
    have ih := reads_mk t key done hd os (ps ++ [o])
    have e0 : done ++ mkS t 0 (ps ++ [o]) = done ++ mkS t 0 ps ++ [⟨t.id, ps.length, t.ab, o⟩] := by rw [mk_append, mk_cons, mk_nil, Nat.zero_add, List.append_assoc]
    have e : isRd key ⟨t.id, ps.length, t.ab, o⟩ = (!t.ab && (o.read && o.key == key)) := by unfold isRd; cases o.read <;> cases t.ab <;> rfl
    rw [e0, List.length_append, List.length_singleton] at ih
    rw [mk_cons, readsG, ih, e, List.zipIdx_cons, List.filter_cons]
    by_cases ha : t.ab = true
    · rw [if_pos ha, if_pos ha, if_neg (by simp [ha])]
      rfl
    · simp only [Bool.not_eq_true] at ha
      rw [if_neg (show ¬ t.ab = true by simp [ha]), if_neg (show ¬ t.ab = true by simp [ha])]
      simp only [ha, Bool.not_false, Bool.true_and, List.append_assoc, List.singleton_append]
      by_cases hk : (o.read && o.key == key) = true
      · have hk2 : o.key = key := by simp at hk; exact hk.2
        rw [if_pos hk, if_pos hk, List.map_cons, List.singleton_append]
        congr 1
        simp only [rdOf, hk2, RdM.mk.injEq, true_and]
        rw [apps_append, apps_none hd, apps_mk, List.nil_append]
        simp
      · rw [if_neg hk, if_neg hk, List.nil_append]
theorem reads_flat (key : Int) : ∀ (vs : List TxnM) (done : List Spot), (∀ t ∈ vs, done.filter (isApp (t.id, key)) = []) → (vs.Pairwise fun a b => a.id < b.id) → readsG done (flat vs) key = vs.flatMap fun t => if t.ab = true then [] else docRd t key
  | [], _, _, _ => rfl
  | t :: vs, done, hd, hp => by
    obtain ⟨h1, h2⟩ := List.pairwise_cons.1 hp
    have hm := reads_mk t key done (hd t (by simp)) t.ops []
    simp only [mk_nil, List.append_nil, List.length_nil, List.nil_append] at hm
    rw [flat_cons, readsG_app, List.flatMap_cons, hm, reads_flat key vs (done ++ mkS t 0 t.ops) ?_ h2]
    · rfl
    · intro x hx
      rw [List.filter_append, hd x (List.mem_cons_of_mem _ hx), List.nil_append, List.filter_eq_nil_iff]
      intro s hs
      have := (mk_id t _ _ s hs).1
      have := h1 x hx
      simp [isApp]
      intro _ e
      omega
theorem reads_ord (h : Ord ts us) (u : Uq ts) (key : Int) : readsP (flat us) key = docReads ts key := by
  rw [readsP, reads_flat key us [] (by simp) h.2, flatMap_com, docReads, ← ids_ord h, idsOf, List.flatMap_map]
  exact flatMap_same fun t ht => by rw [docTxn_of u (h.1.mem_iff.1 (List.mem_filter.1 ht).1)]
end
end Go.Proofs.Ytofgfcebkmdhcaa.Tab

/- The sets that Check keeps: of numbers, and of values with their keys. -/
namespace Go.Proofs.Ytofgfcebkmdhcaa.Keys
open Go.RowKit Go.Proofs.Ytofgfcebkmdhcaa.Dig Go.Proofs.Ytofgfcebkmdhcaa.Mem Go.Maps
set_option linter.unusedVariables false
set_option linter.unusedSimpArgs false

set_option maxRecDepth 100000 in
theorem rowEApp : (138 : TypeId) < Try.prog.types.size := of_decide_eq_true (by kernel_rfl)
theorem wideEApp : (match Try.prog.underlying 138 with | some (.array _ _) | some (.struct _) => true | _ => false) = true := by kernel_rfl
set_option maxRecDepth 100000 in
theorem lawEApp : Keyed Try.prog 138 := Keyed.of_law (deep_law_laid Frame.laidOut (m := 2) (by omega) rowEApp (by kernel_rfl) wideEApp)
theorem ktEApp : Try.prog.keyType 138 = true := by kernel_rfl
theorem cellsEApp : Try.prog.cellsOf 138 = 2 := by kernel_rfl
theorem keyEApp {k v : Int} (hk : (Lit.int .i64 k).wf = true) (hv : (Lit.int .i64 v).wf = true) : keyOf Try.prog 138 (.agg #[.int .i64 k, .int .i64 v]) = some (.string (keyBytes [.int .i64 k, .int .i64 v])) := by
  obtain ⟨m, hm⟩ := sizes
  unfold keyOf
  simp only [Try.underlying138]
  rw [if_pos (by simp [ktEApp, Value.formed, Try.underlying138, cellsEApp]), hm]
  simp [Program.keyLits, Try.underlying138, cellsEApp, cellsInt, Value.cells, go_sem, hk, hv, Try.underlying3]
theorem eappIs : KeyIs 138 appV appL appOk := ⟨lawEApp, fun x hx => keyEApp hx.1 hx.2, fun x y h => by simp [appV] at h; exact Prod.ext h.1 h.2⟩
def idV (n : Int) : Value := .int .i64 n
def idL (n : Int) : Lit := .int .i64 n
theorem keyId {n : Int} (hw : (Lit.int .i64 n).wf = true) : keyOf Try.prog 3 (idV n) = some (idL n) := by
  unfold keyOf idV idL
  simp [Try.underlying3, mapKey, hw]
theorem idIs : KeyIs 3 idV idL nameOk := ⟨int_keyed Try.underlying3, fun x hx => keyId hx, fun x y h => by simpa [idV] using h⟩
def Ids (w : World) (b n : Nat) (P : Int → Bool) : Prop := SetAt 3 idV idL nameOk w b n P
def EVals (w : World) (b n : Nat) (P : Int × Int → Bool) : Prop := SetAt 138 appV appL appOk w b n P
theorem Ids.keep {w w' : World} {b n : Nat} {P : Int → Bool} {S : Nat → Prop} (h : Ids w b n P) (ho : Only S w w') (hb : ¬ S b) : Ids w' b n P := SetAt.keep h ho hb
theorem EVals.keep {w w' : World} {b n : Nat} {P : Int × Int → Bool} {S : Nat → Prop} (h : EVals w b n P) (ho : Only S w w') (hb : ¬ S b) : EVals w' b n P := SetAt.keep h ho hb
theorem Ids.look {w : World} {b n : Nat} {P : Int → Bool} (h : Ids w b n P) {x : Int} (hx : (Lit.int .i64 x).wf = true) : (Instr.lookup 105 (.map (some b)) (.int .i64 x) true).run Try.prog w = .ok (.tuple #[.agg #[], .bool (P x)]) w := SetAt.look h idIs Try.underlying105 hx
theorem EVals.look {w : World} {b n : Nat} {P : Int × Int → Bool} (h : EVals w b n P) {x y : Int} (hx : (Lit.int .i64 x).wf = true) (hy : (Lit.int .i64 y).wf = true) : (Instr.lookup 106 (.map (some b)) (.agg #[.int .i64 x, .int .i64 y]) true).run Try.prog w = .ok (.tuple #[.agg #[], .bool (P (x, y))]) w := SetAt.look (x := (x, y)) h eappIs Try.underlying106 ⟨hx, hy⟩
theorem Ids.store {w : World} {b n : Nat} {P : Int → Bool} (h : Ids w b n P) {x : Int} (hx : (Lit.int .i64 x).wf = true) (hn : n < 1000000) :
    ∃ w', (Instr.mapUpdate 105 (.map (some b)) (.int .i64 x) (.agg #[])).run Try.prog w = .ok () w' ∧ Ids w' b (n + 1) (fun y => P y || x == y) ∧ Only (fun k => k = b) w w' :=
  SetAt.store h idIs Try.underlying105 hx (by unfold maxLen; omega) (by simp) (fun y hy => by simp [Ne.symm hy])
theorem EVals.store {w : World} {b n : Nat} {P : Int × Int → Bool} (h : EVals w b n P) {x y : Int} (hx : (Lit.int .i64 x).wf = true) (hy : (Lit.int .i64 y).wf = true) (hn : n < 1000000) :
    ∃ w', (Instr.mapUpdate 106 (.map (some b)) (.agg #[.int .i64 x, .int .i64 y]) (.agg #[])).run Try.prog w = .ok () w' ∧ EVals w' b (n + 1) (fun p => P p || (x == p.1 && y == p.2)) ∧ Only (fun k => k = b) w w' :=
  SetAt.store (x := (x, y)) h eappIs Try.underlying106 ⟨hx, hy⟩ (by unfold maxLen; omega) (by simp) (fun p hp => by
    by_cases e : x = p.1
    · by_cases e2 : y = p.2
      · exact absurd (Prod.ext e.symm e2.symm) hp
      · simp [e2]
    · simp [e])
end Go.Proofs.Ytofgfcebkmdhcaa.Keys
