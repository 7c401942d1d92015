/- Which history may be, and its first error, as plain functions; what may be comes back. -/
import Derived.Test.YtigmgkcojifbcaaEncPlain
namespace Go.Proofs.Ytigmgkcojifbcaa.Hist
open Go.RowKit Go.Proofs.Ytigmgkcojifbcaa.Dig Go.Proofs.Ytigmgkcojifbcaa.Mem
set_option linter.unusedVariables false
set_option linter.unusedSimpArgs false

def mayB (n : Int) : Bool := decide (0 ≤ n ∧ n ≤ 2147483647)
theorem mayB_iff {n : Int} : mayB n = true ↔ mayN n := by unfold mayB mayN; exact decide_eq_true_iff
theorem mayB_no {n : Int} : mayB n = false ↔ ¬ mayN n := by unfold mayB mayN; exact decide_eq_false_iff_not
def mayOpB (o : OpM) : Bool := if o.read = true then mayB o.key && o.list.all mayB && o.value == 0 else mayB o.key && mayB o.value && o.list.length == 0
/-- An operation's first error, behind a history. -/
def chkO (pre : List TxnM) (o : OpM) : Int := if mayOpB o = false then 2 else if o.read = false ∧ appB pre o.key o.value = true then 6 else 0
def chkOs : List TxnM → List OpM → Int
  | _, [] => 0
  | pre, o :: os => if chkO pre o = 0 then chkOs (addOp pre o) os else chkO pre o
def chkT (pre : List TxnM) (t : TxnM) : Int := if mayB t.id = false then 2 else if twinB pre t.id = true then 5 else chkOs (pre ++ [⟨t.id, t.ab, []⟩]) t.ops
def chkTs : List TxnM → List TxnM → Int
  | _, [] => 0
  | pre, t :: ts => if chkT pre t = 0 then chkTs (pre ++ [t]) ts else chkT pre t
def checkS (ts : List TxnM) : Int := if 1024 < ts.length ∨ 4096 < opsN ts then 3 else if chkTs [] ts ≠ 0 then chkTs [] ts else if 262144 < (textH ts).length then 3 else 0

theorem addOp_at (pre : List TxnM) (t : TxnM) (o : OpM) : addOp (pre ++ [t]) o = pre ++ [⟨t.id, t.ab, t.ops ++ [o]⟩] := by simp [addOp]
theorem chkOs_app : ∀ (os ps : List OpM) (qs : List TxnM) (id : Int) (ab : Bool) (rs : List OpM), chkOs (qs ++ [⟨id, ab, rs⟩]) (os ++ ps) = if chkOs (qs ++ [⟨id, ab, rs⟩]) os = 0 then chkOs (qs ++ [⟨id, ab, rs ++ os⟩]) ps else chkOs (qs ++ [⟨id, ab, rs⟩]) os
  | [], ps, qs, id, ab, rs => by simp [chkOs]
  | o :: os, ps, qs, id, ab, rs => by
    have ih := chkOs_app os ps qs id ab (rs ++ [o])
    rw [List.cons_append, chkOs, chkOs]
    by_cases h : chkO (qs ++ [⟨id, ab, rs⟩]) o = 0
    · rw [if_pos h, if_pos h, addOp_at, ih, List.append_assoc, List.singleton_append]
    · rw [if_neg h, if_neg h, if_neg h]
theorem chkTs_app : ∀ (ts us qs : List TxnM), chkTs qs (ts ++ us) = if chkTs qs ts = 0 then chkTs (qs ++ ts) us else chkTs qs ts
  | [], us, qs => by simp [chkTs]
  | t :: ts, us, qs => by
    rw [List.cons_append, chkTs, chkTs]
    by_cases h : chkT qs t = 0
    · rw [if_pos h, if_pos h, chkTs_app ts us, List.append_assoc, List.singleton_append]
    · rw [if_neg h, if_neg h, if_neg h]
/-- As far as k transactions there is no error. -/
theorem chkTs_next {ts : List TxnM} {k : Nat} (hk : k < ts.length) (h : chkTs [] (ts.take k) = 0) : chkTs [] (ts.take (k + 1)) = chkT (ts.take k) ts[k] := by
  rw [List.take_succ_eq_append_getElem hk, chkTs_app, if_pos h, List.nil_append, chkTs]
  by_cases e : chkT (ts.take k) ts[k] = 0
  · rw [if_pos e, chkTs, e]
  · rw [if_neg e]
theorem chkTs_stop {ts : List TxnM} {k : Nat} {e : Int} (h : chkTs [] (ts.take k) = e) (he : e ≠ 0) : chkTs [] ts = e := by
  have := chkTs_app (ts.take k) (ts.drop k) []
  rw [List.take_append_drop, if_neg (by rw [h]; exact he), h] at this
  exact this
theorem chkOs_next {qs : List TxnM} {id : Int} {ab : Bool} {os : List OpM} {k : Nat} (hk : k < os.length) (h : chkOs (qs ++ [⟨id, ab, []⟩]) (os.take k) = 0) : chkOs (qs ++ [⟨id, ab, []⟩]) (os.take (k + 1)) = chkO (qs ++ [⟨id, ab, os.take k⟩]) os[k] := by
  rw [List.take_succ_eq_append_getElem hk, chkOs_app, if_pos h, List.nil_append, chkOs]
  by_cases e : chkO (qs ++ [⟨id, ab, os.take k⟩]) os[k] = 0
  · rw [if_pos e, chkOs, e]
  · rw [if_neg e]
theorem chkOs_stop {qs : List TxnM} {id : Int} {ab : Bool} {os : List OpM} {k : Nat} {e : Int} (h : chkOs (qs ++ [⟨id, ab, []⟩]) (os.take k) = e) (he : e ≠ 0) : chkOs (qs ++ [⟨id, ab, []⟩]) os = e := by
  have := chkOs_app (os.take k) (os.drop k) qs id ab []
  rw [List.take_append_drop, if_neg (by rw [h]; exact he), h] at this
  exact this

/-! ### No error: it may be -/
theorem mayOp_ok {ts : List TxnM} {o : OpM} : chkO ts o = 0 ↔ OpOk ts o := by
  obtain ⟨r, k, v, l⟩ := o
  unfold chkO OpOk mayOpB
  cases r
  · simp only [Bool.false_eq_true, if_false, false_and, false_or, true_and]
    constructor
    · intro h
      split at h
      · cases h
      · rename_i h1
        split at h
        · cases h
        · rename_i h2
          simp only [Bool.not_eq_false, Bool.and_eq_true, mayB_iff, beq_iff_eq, Bool.not_eq_true] at h1 h2
          exact ⟨h1.1.1, h1.1.2, List.eq_nil_of_length_eq_zero h1.2, h2⟩
    · rintro ⟨h1, h2, h3, h4⟩
      subst h3
      rw [if_neg (by rw [mayB_iff.2 h1, mayB_iff.2 h2]; simp), if_neg (by simp [h4])]
  · simp only [if_true, true_and, Bool.true_eq_false, false_and, or_false]
    constructor
    · intro h
      split at h
      · cases h
      · rename_i h1
        simp only [Bool.not_eq_false, Bool.and_eq_true, mayB_iff, beq_iff_eq, List.all_eq_true] at h1
        exact ⟨h1.1.1, h1.2, h1.1.2⟩
    · rintro ⟨h1, h2, h3⟩
      subst h2
      rw [if_neg (by rw [mayB_iff.2 h1, (List.all_eq_true.2 fun x hx => mayB_iff.2 (h3 x hx) : l.all mayB = true)]; simp)]
      simp
theorem chkOs_valid : ∀ (os : List OpM) (qs : List TxnM) (id : Int) (ab : Bool) (rs : List OpM), Valid (qs ++ [⟨id, ab, rs⟩]) → chkOs (qs ++ [⟨id, ab, rs⟩]) os = 0 → Valid (qs ++ [⟨id, ab, rs ++ os⟩])
  | [], qs, id, ab, rs, hv, _ => by simpa using hv
  | o :: os, qs, id, ab, rs, hv, h => by
    rw [chkOs] at h
    by_cases e : chkO (qs ++ [⟨id, ab, rs⟩]) o = 0
    · rw [if_pos e, addOp_at] at h
      have := chkOs_valid os qs id ab (rs ++ [o]) (by have := Valid.op hv (by simp) (mayOp_ok.1 e); rwa [addOp_at] at this) h
      rwa [List.append_assoc, List.singleton_append] at this
    · rw [if_neg e] at h; exact absurd h e
theorem chkTs_valid : ∀ (ts qs : List TxnM), Valid qs → qs.length + ts.length ≤ 1024 → chkTs qs ts = 0 → Valid (qs ++ ts)
  | [], qs, hv, _, _ => by simpa using hv
  | t :: ts, qs, hv, hl, h => by
    simp at hl
    rw [chkTs] at h
    by_cases e : chkT qs t = 0
    · rw [if_pos e] at h
      have hv2 : Valid (qs ++ [t]) := by
        unfold chkT at e
        by_cases h1 : mayB t.id = false
        · rw [if_pos h1] at e; cases e
        by_cases h2 : twinB qs t.id = true
        · rw [if_neg h1, if_pos h2] at e; cases e
        rw [if_neg h1, if_neg h2] at e
        have := chkOs_valid t.ops qs t.id t.ab [] (Valid.txn hv (by omega) (mayB_iff.1 (by simpa using h1)) (by simpa using h2)) e
        simpa using this
      have := chkTs_valid ts (qs ++ [t]) hv2 (by simp; omega) h
      rwa [List.append_assoc, List.singleton_append] at this
    · rw [if_neg e] at h; exact absurd h e
/-- .. and the other way. -/
theorem valid_chk {ts : List TxnM} (h : Valid ts) : chkTs [] ts = 0 := by
  induction h with
  | nil => rfl
  | @txn ts id ab h hl hi ht ih =>
    rw [chkTs_app, if_pos ih, List.nil_append, chkTs]
    have : chkT ts ⟨id, ab, []⟩ = 0 := by unfold chkT; rw [if_neg (by simp [mayB_iff.2 hi]), if_neg (by simp [ht])]; rfl
    rw [if_pos this, chkTs]
  | @op ts o h hts ho ih =>
    obtain ⟨us, t, rfl⟩ : ∃ us t, ts = us ++ [t] := ⟨_, _, (List.dropLast_concat_getLast hts).symm⟩
    rw [addOp_at]
    rw [chkTs_app] at ih ⊢
    by_cases e : chkTs [] us = 0
    · rw [if_pos e, List.nil_append] at ih ⊢
      have hT : chkT us t = 0 := by
        rw [chkTs] at ih
        by_cases q : chkT us t = 0
        · exact q
        · rw [if_neg q] at ih; exact ih
      rw [chkTs]
      have : chkT us ⟨t.id, t.ab, t.ops ++ [o]⟩ = 0 := by
        unfold chkT at hT ⊢
        by_cases h1 : mayB t.id = false
        · rw [if_pos h1] at hT; cases hT
        by_cases h2 : twinB us t.id = true
        · rw [if_neg h1, if_pos h2] at hT; cases hT
        rw [if_neg h1, if_neg h2] at hT
        rw [if_neg h1, if_neg h2]
        show chkOs (us ++ [⟨t.id, t.ab, []⟩]) (t.ops ++ [o]) = 0
        rw [chkOs_app, if_pos hT, List.nil_append, chkOs, if_pos (mayOp_ok.2 ho), chkOs]
      rw [if_pos this, chkTs]
    · rw [if_neg e] at ih; exact absurd ih e
theorem valid_len {ts : List TxnM} (h : Valid ts) : ts.length ≤ 1024 := by
  induction h with
  | nil => simp
  | txn h hl hi ht ih => simp; omega
  | op h hts ho ih => rw [addOp_len]; exact ih
theorem checkS_ok {ts : List TxnM} (h : checkS ts = 0) : Valid ts ∧ opsN ts ≤ 4096 ∧ (textH ts).length ≤ 262144 ∧ ts.length ≤ 1024 := by
  unfold checkS at h
  by_cases h1 : 1024 < ts.length ∨ 4096 < opsN ts
  · rw [if_pos h1] at h; cases h
  by_cases h2 : chkTs [] ts ≠ 0
  · rw [if_neg h1, if_pos h2] at h; exact absurd h h2
  by_cases h3 : 262144 < (textH ts).length
  · rw [if_neg h1, if_neg h2, if_pos h3] at h; cases h
  have := chkTs_valid ts [] Valid.nil (by simp; omega) (by omega)
  exact ⟨by simpa using this, by omega, by omega, by omega⟩
theorem ok_checkS {ts : List TxnM} (hv : Valid ts) (ho : opsN ts ≤ 4096) (hl : (textH ts).length ≤ 262144) : checkS ts = 0 := by
  have := valid_len hv
  unfold checkS
  rw [if_neg (by omega), if_neg (by rw [valid_chk hv]; simp), if_neg (by omega)]

/-! ### Its text, as bytes -/
def lineT8 (id : Int) (ab : Bool) : List UInt8 := 116 :: 32 :: (txt id.toNat ++ [32, if ab then 97 else 99, 10])
def flat8 (l : List Int) : List UInt8 := (l.map fun x => 32 :: txt x.toNat).flatten
def lineO8 (o : OpM) : List UInt8 := if o.read = true then 114 :: 32 :: (txt o.key.toNat ++ (flat8 o.list ++ [10])) else 97 :: 32 :: (txt o.key.toNat ++ (32 :: (txt o.value.toNat ++ [10])))
def textT8 (t : TxnM) : List UInt8 := lineT8 t.id t.ab ++ (t.ops.map lineO8).flatten
def textH8 (ts : List TxnM) : List UInt8 := (ts.map textT8).flatten
def toI (l : List UInt8) : List Int := l.map fun b => (b.toNat : Int)
theorem toI_len (l : List UInt8) : (toI l).length = l.length := by simp [toI]
theorem flat_toI : ∀ l : List Int, toI (flat8 l) = flat l
  | [] => rfl
  | x :: l => by
    have ih := flat_toI l
    simp only [flat8, List.map_cons, List.flatten_cons, toI, List.map_append] at ih ⊢
    rw [ih]
    rfl
theorem lineT_toI (id : Int) (ab : Bool) : toI (lineT8 id ab) = lineT id ab := by cases ab <;> simp [toI, lineT8, lineT, txtI]
theorem lineO_toI (o : OpM) : toI (lineO8 o) = lineO o := by
  unfold lineO8 lineO
  split
  · rw [← flat_toI]; simp [toI, txtI]
  · simp [toI, txtI]
theorem ops_toI : ∀ os : List OpM, toI (os.map lineO8).flatten = (os.map lineO).flatten
  | [] => rfl
  | o :: os => by
    have ih := ops_toI os
    have h := lineO_toI o
    simp only [List.map_cons, List.flatten_cons, toI, List.map_append] at ih h ⊢
    rw [ih, h]
theorem textT_toI (t : TxnM) : toI (textT8 t) = textT t := by
  have h1 := lineT_toI t.id t.ab
  have h2 := ops_toI t.ops
  simp only [textT8, textT, toI, List.map_append] at h1 h2 ⊢
  rw [h1, h2]
theorem textH_toI : ∀ ts : List TxnM, toI (textH8 ts) = textH ts
  | [] => rfl
  | t :: ts => by
    have ih := textH_toI ts
    have h := textT_toI t
    simp only [textH8, textH, List.map_cons, List.flatten_cons, toI, List.map_append] at ih h ⊢
    rw [ih, h]
theorem textH8_len (ts : List TxnM) : (textH8 ts).length = (textH ts).length := by rw [← textH_toI, toI_len]
/-- All its numbers may be. -/
def MayAll (ts : List TxnM) : Prop := ∀ t ∈ ts, mayN t.id ∧ ∀ o ∈ t.ops, mayOpB o = true
theorem valid_may {ts : List TxnM} (h : Valid ts) : MayAll ts := by
  induction h with
  | nil => intro t ht; cases ht
  | txn h hl hi ht ih =>
    intro u hu
    rcases List.mem_append.1 hu with q | q
    · exact ih u q
    · obtain rfl := List.mem_singleton.1 q
      exact ⟨hi, fun o ho => by cases ho⟩
  | @op ts o h hts ho ih =>
    obtain ⟨us, t, rfl⟩ : ∃ us t, ts = us ++ [t] := ⟨_, _, (List.dropLast_concat_getLast hts).symm⟩
    rw [addOp_at]
    intro u hu
    rcases List.mem_append.1 hu with q | q
    · exact ih u (List.mem_append_left _ q)
    · obtain rfl := List.mem_singleton.1 q
      have ht := ih t (by simp)
      refine ⟨ht.1, fun p hp => ?_⟩
      rcases List.mem_append.1 hp with r | r
      · exact ht.2 p r
      · obtain rfl := List.mem_singleton.1 r
        have := mayOp_ok.2 ho
        unfold chkO at this
        by_cases e : mayOpB p = false
        · rw [if_pos e] at this; cases this
        · simpa using e
theorem mayOp_read {o : OpM} (h : mayOpB o = true) (hr : o.read = true) : mayN o.key ∧ (∀ x ∈ o.list, mayN x) ∧ o.value = 0 := by
  unfold mayOpB at h
  rw [if_pos hr] at h
  simp at h
  exact ⟨mayB_iff.1 h.1.1, fun x hx => mayB_iff.1 (h.1.2 x hx), h.2⟩
theorem mayOp_app {o : OpM} (h : mayOpB o = true) (hr : o.read = false) : mayN o.key ∧ mayN o.value ∧ o.list = [] := by
  unfold mayOpB at h
  rw [if_neg (by simp [hr])] at h
  simp at h
  exact ⟨mayB_iff.1 h.1.1, mayB_iff.1 h.1.2, h.2⟩
end Go.Proofs.Ytigmgkcojifbcaa.Hist
