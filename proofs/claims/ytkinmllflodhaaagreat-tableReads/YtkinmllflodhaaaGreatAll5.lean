/- Joined out of the texts TabPlain, EncKeys, App, DqRow, RowApp, DqKeep, in that order. -/
import Derived.Test.YtkinmllflodhaaaGreatAll4
import Derived.Test.YtkinmllflodhaaaGreatAll2
import Derived.Laws.AppendOwnNone
import Derived.Lib.AppendStr
import Derived.Test.YtkinmllflodhaaaGreatAll1
import Derived.Laws.MakeOwn
import Derived.Laws.OwnMore
import Derived.Deep.RegionLaw
import Derived.Deep.DeepMust
import Derived.Maps.AppendAt
import Derived.RangeFuncBox
import Derived.RangeFuncNested
import Derived.Deep.RegionHeld
/- Plain mathematics of the table: what a history says, gone through in order; and as the document has it. -/
namespace Go.Proofs.YtkinmllflodhaaaGreat.Tab
open Go.Proofs.YtkinmllflodhaaaGreat.Mem Go.Proofs.YtkinmllflodhaaaGreat.Hist Go.Proofs.YtkinmllflodhaaaGreat.Sets
set_option linter.unusedVariables false
set_option linter.unusedSimpArgs false

structure Spot where
  id : Int
  op : Nat
  ab : Bool
  o : OpM
structure RdM where
  txn : Int
  op : Nat
  key : Int
  list : List Int
  own : List Int
structure WrM where
  txn : Int
  op : Nat
  key : Int
  value : Int
  ab : Bool
def spotsOf (t : TxnM) : List Spot := t.ops.zipIdx.map fun p => ⟨t.id, p.2, t.ab, p.1⟩
def flat (us : List TxnM) : List Spot := us.flatMap spotsOf
def isApp (p : Int × Int) (s : Spot) : Bool := !s.o.read && s.id == p.1 && s.o.key == p.2
def appsP (pre : List Spot) (p : Int × Int) : List Int := (pre.filter (isApp p)).map (·.o.value)
def isVal (p : Int × Int) (s : Spot) : Bool := !s.o.read && s.o.key == p.1 && s.o.value == p.2
def wrOf (s : Spot) : WrM := ⟨s.id, s.op, s.o.key, s.o.value, s.ab⟩
def writerP (pre : List Spot) (p : Int × Int) : Option WrM := ((pre.filter (isVal p)).map wrOf).getLast?
def isWr (key : Int) (s : Spot) : Bool := !s.o.read && !s.ab && s.o.key == key
def writesP (pre : List Spot) (key : Int) : List WrM := (pre.filter (isWr key)).map wrOf
def isRd (key : Int) (s : Spot) : Bool := s.o.read && !s.ab && s.o.key == key
def rdOf (done : List Spot) (s : Spot) : RdM := ⟨s.id, s.op, s.o.key, s.o.list, appsP done (s.id, s.o.key)⟩
def readsG : List Spot → List Spot → Int → List RdM
  | _, [], _ => []
  | done, x :: r, k => (if isRd k x = true then [rdOf done x] else []) ++ readsG (done ++ [x]) r k
def readsP (pre : List Spot) (k : Int) : List RdM := readsG [] pre k

section
variable {pre : List Spot} {x : Spot} {p : Int × Int} {k : Int}
theorem appsP_hit (h : isApp p x = true) : appsP (pre ++ [x]) p = appsP pre p ++ [x.o.value] := by simp [appsP, List.filter_cons, h]
theorem appsP_miss (h : isApp p x = false) : appsP (pre ++ [x]) p = appsP pre p := by simp [appsP, List.filter_cons, h]
theorem writerP_hit (h : isVal p x = true) : writerP (pre ++ [x]) p = some (wrOf x) := by simp [writerP, List.filter_cons, h]
theorem writerP_miss (h : isVal p x = false) : writerP (pre ++ [x]) p = writerP pre p := by simp [writerP, List.filter_cons, h]
theorem writesP_hit (h : isWr k x = true) : writesP (pre ++ [x]) k = writesP pre k ++ [wrOf x] := by simp [writesP, List.filter_cons, h]
theorem writesP_miss (h : isWr k x = false) : writesP (pre ++ [x]) k = writesP pre k := by simp [writesP, List.filter_cons, h]
theorem readsG_app : ∀ (done a b : List Spot) (k : Int), readsG done (a ++ b) k = readsG done a k ++ readsG (done ++ a) b k
  | done, [], b, k => by simp [readsG]
  | done, x :: a, b, k => by rw [List.cons_append, readsG, readsG, readsG_app (done ++ [x]) a b k]; simp
theorem readsP_hit (h : isRd k x = true) : readsP (pre ++ [x]) k = readsP pre k ++ [rdOf pre x] := by rw [readsP, readsG_app]; simp [readsG, h, readsP]
theorem readsP_miss (h : isRd k x = false) : readsP (pre ++ [x]) k = readsP pre k := by rw [readsP, readsG_app]; simp [readsG, h, readsP]
theorem appsP_le (pre : List Spot) (p : Int × Int) : (appsP pre p).length ≤ pre.length := by simp only [appsP, List.length_map]; exact List.length_filter_le _ _
theorem writesP_le (pre : List Spot) (k : Int) : (writesP pre k).length ≤ pre.length := by simp only [writesP, List.length_map]; exact List.length_filter_le _ _
theorem readsG_le : ∀ (done a : List Spot) (k : Int), (readsG done a k).length ≤ a.length
  | _, [], _ => by simp [readsG]
  | done, x :: a, k => by
    have := readsG_le (done ++ [x]) a k
    rw [readsG]
    split <;> simp <;> omega
theorem readsP_le (pre : List Spot) (k : Int) : (readsP pre k).length ≤ pre.length := readsG_le _ _ _
end

/-! ### The document -/
def docIds (ts : List TxnM) : List Int := setL ltI ((ts.filter fun t => !t.ab).map (·.id))
def keysOf (ts : List TxnM) : List Int := ts.flatMap fun t => t.ops.map (·.key)
def docKeys (ts : List TxnM) : List Int := setL ltI (keysOf ts)
def docTxn (ts : List TxnM) (id : Int) : TxnM := (ts.find? fun t => t.id == id).getD ⟨id, false, []⟩
def aheadL (os : List OpM) (key : Int) : List Int := (os.filter fun o => !o.read && o.key == key).map (·.value)
def docApps (ts : List TxnM) (id key : Int) : List Int := aheadL (docTxn ts id).ops key
def docWriter (ts : List TxnM) (p : Int × Int) : Option WrM := ((flat ts).find? (isVal p)).map wrOf
def docRd (t : TxnM) (key : Int) : List RdM := (t.ops.zipIdx.filter fun p => p.1.read && p.1.key == key).map fun p => ⟨t.id, p.2, key, p.1.list, aheadL (t.ops.take p.2) key⟩
def docReads (ts : List TxnM) (key : Int) : List RdM := (docIds ts).flatMap fun id => docRd (docTxn ts id) key
def docWr (t : TxnM) (key : Int) : List WrM := (t.ops.zipIdx.filter fun p => !p.1.read && p.1.key == key).map fun p => ⟨t.id, p.2, key, p.1.value, false⟩
def docWrites (ts : List TxnM) (key : Int) : List WrM := (docIds ts).flatMap fun id => docWr (docTxn ts id) key

/-! ### In order -/
def Ord (ts us : List TxnM) : Prop := us.Perm ts ∧ us.Pairwise fun a b => a.id < b.id
def idsOf (us : List TxnM) : List Int := (us.filter fun t => !t.ab).map (·.id)
section
variable {ts us : List TxnM}
theorem ids_ord (h : Ord ts us) : idsOf us = docIds ts := by
  refine rising_eq totI ?_ (rising_setL totI _) fun x => ?_
  · unfold idsOf Rising
    rw [List.pairwise_map]
    exact (h.2.sublist List.filter_sublist).imp fun q => by simpa [ltI] using q
  · rw [docIds, mem_setL totI]
    exact ((h.1.filter _).map _).mem_iff
def mkS (t : TxnM) (n : Nat) (os : List OpM) : List Spot := (os.zipIdx n).map fun p => ⟨t.id, p.2, t.ab, p.1⟩
theorem spots_mk (t : TxnM) : spotsOf t = mkS t 0 t.ops := rfl
theorem mk_cons (t : TxnM) (n : Nat) (o : OpM) (os : List OpM) : mkS t n (o :: os) = ⟨t.id, n, t.ab, o⟩ :: mkS t (n + 1) os := by simp [mkS]
theorem mk_nil (t : TxnM) (n : Nat) : mkS t n [] = [] := rfl
theorem mk_append (t : TxnM) : ∀ (n : Nat) (a b : List OpM), mkS t n (a ++ b) = mkS t n a ++ mkS t (n + a.length) b
  | n, [], b => by simp [mk_nil]
  | n, o :: a, b => by rw [List.cons_append, mk_cons, mk_cons, mk_append t (n + 1) a b, List.cons_append, List.length_cons, Nat.add_right_comm, Nat.add_assoc]
theorem mk_len (t : TxnM) (n : Nat) (os : List OpM) : (mkS t n os).length = os.length := by simp [mkS]
theorem mk_ops (t : TxnM) : ∀ (n : Nat) (os : List OpM), (mkS t n os).map (·.o) = os
  | _, [] => rfl
  | n, o :: os => by rw [mk_cons, List.map_cons, mk_ops t (n + 1) os]
theorem mk_id (t : TxnM) : ∀ (n : Nat) (os : List OpM), ∀ s ∈ mkS t n os, s.id = t.id ∧ s.ab = t.ab
  | _, [], s, hs => by simp [mk_nil] at hs
  | n, o :: os, s, hs => by
    rw [mk_cons] at hs
    rcases List.mem_cons.1 hs with rfl | hs
    · exact ⟨rfl, rfl⟩
    · exact mk_id t (n + 1) os s hs
theorem flat_append (a b : List TxnM) : flat (a ++ b) = flat a ++ flat b := by simp [flat]
theorem flat_cons (t : TxnM) (us : List TxnM) : flat (t :: us) = mkS t 0 t.ops ++ flat us := by simp [flat, spots_mk]
theorem flat_len : ∀ us : List TxnM, (flat us).length = opsN us
  | [] => rfl
  | t :: us => by rw [flat_cons, List.length_append, mk_len, flat_len us]; simp [opsN]
theorem flat_keys : ∀ us : List TxnM, (flat us).map (·.o.key) = keysOf us
  | [] => rfl
  | t :: us => by
    have e : (mkS t 0 t.ops).map (·.o.key) = t.ops.map (·.key) := by
      have := congrArg (List.map fun o : OpM => o.key) (mk_ops t 0 t.ops)
      rw [List.map_map] at this
      exact this
    rw [flat_cons, List.map_append, e, flat_keys us]
    simp [keysOf]
theorem keys_ord (h : Ord ts us) : setL ltI ((flat us).map (·.o.key)) = docKeys ts := by
  refine setL_congr totI fun x => ?_
  rw [flat_keys]
  exact (h.1.flatMap_right _).mem_iff
/-- No two with one number, and no value twice to a key. -/
structure Uq (ts : List TxnM) : Prop where
  ids : ts.Pairwise fun a b => a.id ≠ b.id
  vals : ∀ p, ((flat ts).filter (isVal p)).length ≤ 1
theorem any_flat (ts : List TxnM) (p : Int × Int) : (flat ts).any (isVal p) = appB ts p.1 p.2 := by
  have e : ∀ (t : TxnM) (n : Nat) (os : List OpM), (mkS t n os).any (isVal p) = os.any fun o => !o.read && o.key == p.1 && o.value == p.2 := fun t n os => by
    induction os generalizing n with
    | nil => rfl
    | cons o os ih => rw [mk_cons, List.any_cons, List.any_cons, ih]; rfl
  induction ts with
  | nil => rfl
  | cons t ts ih => rw [flat_cons, List.any_append, e, ih]; simp [appB]
theorem valid_uq {ts : List TxnM} (h : Valid ts) : Uq ts := by
  induction h with
  | nil => exact ⟨List.Pairwise.nil, fun p => by simp [flat]⟩
  | @txn ts id ab h hl hi ht ih =>
    refine ⟨List.pairwise_append.2 ⟨ih.ids, by simp, fun a ha b hb => ?_⟩, fun p => ?_⟩
    · simp only [List.mem_singleton] at hb
      subst hb
      intro e
      have := List.any_eq_false.1 ht a ha
      simp [e] at this
    · have : flat (ts ++ [⟨id, ab, []⟩]) = flat ts := by rw [flat_append, flat_cons]; simp [mk_nil, flat]
      rw [this]
      exact ih.vals p
  | @op ts o h hts ho ih =>
    obtain ⟨qs, t, rfl⟩ : ∃ qs t, ts = qs ++ [t] := ⟨ts.dropLast, ts.getLast hts, (List.dropLast_concat_getLast hts).symm⟩
    rw [addOp_at]
    have hi := ih.ids
    refine ⟨?_, fun p => ?_⟩
    · rw [List.pairwise_append] at hi ⊢
      exact ⟨hi.1, by simp, fun a ha b hb => by simp only [List.mem_singleton] at hb; subst hb; exact hi.2.2 a ha t (by simp)⟩
    · have e : flat (qs ++ [⟨t.id, t.ab, t.ops ++ [o]⟩]) = flat (qs ++ [t]) ++ [⟨t.id, t.ops.length, t.ab, o⟩] := by
        rw [flat_append, flat_append, flat_cons, flat_cons, List.append_assoc]
        congr 1
        have := mk_append t 0 t.ops [o]
        rw [mk_cons, mk_nil, Nat.zero_add] at this
        simp only [flat, List.flatMap_nil, List.append_nil]
        exact this
      rw [e, List.filter_append, List.length_append]
      have hv := ih.vals p
      by_cases hp : isVal p ⟨t.id, t.ops.length, t.ab, o⟩ = true
      · have hr : o.read = false ∧ o.key = p.1 ∧ o.value = p.2 := by simpa [isVal, and_assoc] using hp
        have h0 : (flat (qs ++ [t])).filter (isVal p) = [] := by
          rw [List.filter_eq_nil_iff]
          have h1 : appB (qs ++ [t]) p.1 p.2 = false := by
            rcases ho.2 with q | q
            · rw [hr.1] at q; exact absurd q.1 (by simp)
            · rw [← hr.2.1, ← hr.2.2]; exact q.2.2.2
          rw [← any_flat] at h1
          intro s hs
          simpa using List.any_eq_false.1 h1 s hs
        rw [h0]
        simp [List.filter_cons, hp]
      · rw [List.filter_cons, if_neg hp]
        simpa using hv
theorem perm_one {α : Type} {a b : List α} (h : a.Perm b) (hb : b.length ≤ 1) : a = b := by
  match b, hb with
  | [], _ => exact h.eq_nil
  | [x], _ => exact List.perm_singleton.1 h
theorem find_head {α : Type} (f : α → Bool) : ∀ l : List α, l.find? f = (l.filter f).head?
  | [] => rfl
  | x :: l => by
    rw [List.find?_cons, List.filter_cons]
    cases h : f x
    · exact (find_head f l).trans (by simp)
    · simp
theorem writer_ord (h : Ord ts us) (u : Uq ts) (p : Int × Int) : writerP (flat us) p = docWriter ts p := by
  have e : (flat us).filter (isVal p) = (flat ts).filter (isVal p) := perm_one ((h.1.flatMap_right _).filter _) (u.vals p)
  have hl := u.vals p
  rw [writerP, docWriter, e, find_head]
  match (flat ts).filter (isVal p), hl with
  | [], _ => rfl
  | [x], _ => rfl
theorem docTxn_of (u : Uq ts) {t : TxnM} (ht : t ∈ ts) : docTxn ts t.id = t := by
  have : ts.find? (fun x => x.id == t.id) = some t := by
    have hi := u.ids
    clear u
    induction ts with
    | nil => simp at ht
    | cons a ts ih =>
      obtain ⟨h1, h2⟩ := List.pairwise_cons.1 hi
      rw [List.find?_cons]
      rcases List.mem_cons.1 ht with rfl | q
      · simp
      · rw [show (a.id == t.id) = false from by simpa using h1 t q]
        exact ih q h2
  rw [docTxn, this]
  rfl
theorem filter_other {us : List TxnM} {p : Int × Int} (h : ∀ t ∈ us, t.id ≠ p.1) : (flat us).filter (isApp p) = [] := by
  rw [List.filter_eq_nil_iff]
  intro s hs
  obtain ⟨t, ht, hs⟩ := List.mem_flatMap.1 hs
  rw [spots_mk] at hs
  have := (mk_id t _ _ s hs).1
  have := h t ht
  simp [isApp]
  intro _ e
  omega
theorem apps_mk (t : TxnM) (key : Int) : ∀ (n : Nat) (os : List OpM), appsP (mkS t n os) (t.id, key) = aheadL os key
  | _, [] => rfl
  | n, o :: os => by
    have ih := apps_mk t key (n + 1) os
    unfold appsP aheadL at *
    rw [mk_cons, List.filter_cons, List.filter_cons]
    have e : isApp (t.id, key) ⟨t.id, n, t.ab, o⟩ = (!o.read && o.key == key) := by simp [isApp]
    rw [e]
    split
    · rw [List.map_cons, List.map_cons, ih]
    · exact ih
theorem apps_append (a b : List Spot) (p : Int × Int) : appsP (a ++ b) p = appsP a p ++ appsP b p := by simp [appsP]
theorem apps_none {a : List Spot} {p : Int × Int} (h : a.filter (isApp p) = []) : appsP a p = [] := by simp [appsP, h]
theorem ne_of_pair {l r : List TxnM} {t : TxnM} (h : (l ++ t :: r).Pairwise fun a b => a.id < b.id) : (∀ x ∈ l, x.id ≠ t.id) ∧ ∀ x ∈ r, x.id ≠ t.id := by
  rw [List.pairwise_append] at h
  refine ⟨fun x hx => by have := h.2.2 x hx t (by simp); omega, fun x hx => by have := (List.pairwise_cons.1 h.2.1).1 x hx; omega⟩
theorem apps_ord (h : Ord ts us) (u : Uq ts) (id key : Int) : appsP (flat us) (id, key) = docApps ts id key := by
  by_cases hx : ∃ t ∈ us, t.id = id
  · obtain ⟨t, ht, rfl⟩ := hx
    have hd := docTxn_of u (h.1.mem_iff.1 ht)
    obtain ⟨l, r, rfl⟩ := List.append_of_mem ht
    obtain ⟨n1, n2⟩ := ne_of_pair h.2
    rw [flat_append, flat_cons, apps_append, apps_append, apps_none (filter_other (p := (t.id, key)) n1), apps_none (filter_other (p := (t.id, key)) n2), apps_mk]
    simp [docApps, hd]
  · have hn : ∀ t ∈ us, t.id ≠ (id, key).1 := fun t ht e => hx ⟨t, ht, e⟩
    rw [apps_none (filter_other hn)]
    have : ts.find? (fun t => t.id == id) = none := by
      rw [List.find?_eq_none]
      intro t ht
      simpa using fun e => hx ⟨t, h.1.mem_iff.2 ht, e⟩
    simp [docApps, docTxn, this, aheadL]
theorem writes_mk (t : TxnM) (key : Int) : ∀ (n : Nat) (os : List OpM), writesP (mkS t n os) key = if t.ab = true then [] else ((os.zipIdx n).filter fun p => !p.1.read && p.1.key == key).map fun p => ⟨t.id, p.2, key, p.1.value, false⟩
  | _, [] => by simp [mk_nil, writesP]
  | n, o :: os => by
    have ih := writes_mk t key (n + 1) os
    have e : isWr key ⟨t.id, n, t.ab, o⟩ = (!t.ab && (!o.read && o.key == key)) := by unfold isWr; cases o.read <;> cases t.ab <;> rfl
    unfold writesP at *
    rw [mk_cons, List.filter_cons, e, List.zipIdx_cons, List.filter_cons]
    by_cases ha : t.ab = true
    · rw [if_pos ha] at ih ⊢
      rw [if_neg (by simp [ha])]
      exact ih
    · simp only [Bool.not_eq_true] at ha
      rw [if_neg (show ¬ t.ab = true by simp [ha])] at ih ⊢
      simp only [ha, Bool.not_false, Bool.true_and]
      by_cases hk : (!o.read && o.key == key) = true
      · have hk2 : o.key = key := by simp at hk; exact hk.2
        rw [if_pos hk, if_pos hk, List.map_cons, List.map_cons, ih]
        simp [wrOf, ha, hk2]
      · rw [if_neg hk, if_neg hk]
        exact ih
theorem flatMap_same {β : Type} {f g : TxnM → List β} : ∀ {l : List TxnM}, (∀ t ∈ l, f t = g t) → l.flatMap f = l.flatMap g
  | [], _ => rfl
  | t :: l, h => by rw [List.flatMap_cons, List.flatMap_cons, h t (by simp), flatMap_same fun x hx => h x (List.mem_cons_of_mem _ hx)]
theorem flatMap_com {us : List TxnM} {β : Type} (f : TxnM → List β) : (us.flatMap fun t => if t.ab = true then [] else f t) = (us.filter fun t => !t.ab).flatMap f := by
  induction us with
  | nil => rfl
  | cons t us ih =>
    rw [List.flatMap_cons, ih, List.filter_cons]
    cases t.ab <;> simp
theorem writes_ord (h : Ord ts us) (u : Uq ts) (key : Int) : writesP (flat us) key = docWrites ts key := by
  have e1 : ∀ vs : List TxnM, writesP (flat vs) key = vs.flatMap fun t => if t.ab = true then [] else docWr t key := fun vs => by
    induction vs with
    | nil => rfl
    | cons t vs ih =>
      have := writes_mk t key 0 t.ops
      rw [flat_cons, List.flatMap_cons, ← ih, show (if t.ab = true then [] else docWr t key) = writesP (mkS t 0 t.ops) key from this.symm]
      simp [writesP]
  rw [e1, flatMap_com, docWrites, ← ids_ord h, idsOf, List.flatMap_map]
  exact flatMap_same fun t ht => by rw [docTxn_of u (h.1.mem_iff.1 (List.mem_filter.1 ht).1)]
theorem reads_mk (t : TxnM) (key : Int) (done : List Spot) (hd : done.filter (isApp (t.id, key)) = []) : ∀ (os ps : List OpM), readsG (done ++ mkS t 0 ps) (mkS t ps.length os) key =
    if t.ab = true then [] else ((os.zipIdx ps.length).filter fun p => p.1.read && p.1.key == key).map fun p => ⟨t.id, p.2, key, p.1.list, aheadL ((ps ++ os).take p.2) key⟩
  | [], ps => by simp [mk_nil, readsG]
  | o :: os, ps => by
    have ih := reads_mk t key done hd os (ps ++ [o])
    have e0 : done ++ mkS t 0 (ps ++ [o]) = done ++ mkS t 0 ps ++ [⟨t.id, ps.length, t.ab, o⟩] := by rw [mk_append, mk_cons, mk_nil, Nat.zero_add, List.append_assoc]
    have e : isRd key ⟨t.id, ps.length, t.ab, o⟩ = (!t.ab && (o.read && o.key == key)) := by unfold isRd; cases o.read <;> cases t.ab <;> rfl
    rw [e0, List.length_append, List.length_singleton] at ih
    rw [mk_cons, readsG, ih, e, List.zipIdx_cons, List.filter_cons]
    by_cases ha : t.ab = true
    · rw [if_pos ha, if_pos ha, if_neg (by simp [ha])]
      rfl
    · simp only [Bool.not_eq_true] at ha
      rw [if_neg (show ¬ t.ab = true by simp [ha]), if_neg (show ¬ t.ab = true by simp [ha])]
      simp only [ha, Bool.not_false, Bool.true_and, List.append_assoc, List.singleton_append]
      by_cases hk : (o.read && o.key == key) = true
      · have hk2 : o.key = key := by simp at hk; exact hk.2
        rw [if_pos hk, if_pos hk, List.map_cons, List.singleton_append]
        congr 1
        simp only [rdOf, hk2, RdM.mk.injEq, true_and]
        rw [apps_append, apps_none hd, apps_mk, List.nil_append]
        simp
      · rw [if_neg hk, if_neg hk, List.nil_append]
theorem reads_flat (key : Int) : ∀ (vs : List TxnM) (done : List Spot), (∀ t ∈ vs, done.filter (isApp (t.id, key)) = []) → (vs.Pairwise fun a b => a.id < b.id) → readsG done (flat vs) key = vs.flatMap fun t => if t.ab = true then [] else docRd t key
  | [], _, _, _ => rfl
  | t :: vs, done, hd, hp => by
    obtain ⟨h1, h2⟩ := List.pairwise_cons.1 hp
    have hm := reads_mk t key done (hd t (by simp)) t.ops []
    simp only [mk_nil, List.append_nil, List.length_nil, List.nil_append] at hm
    rw [flat_cons, readsG_app, List.flatMap_cons, hm, reads_flat key vs (done ++ mkS t 0 t.ops) ?_ h2]
    · rfl
    · intro x hx
      rw [List.filter_append, hd x (List.mem_cons_of_mem _ hx), List.nil_append, List.filter_eq_nil_iff]
      intro s hs
      have := (mk_id t _ _ s hs).1
      have := h1 x hx
      simp [isApp]
      intro _ e
      omega
theorem reads_ord (h : Ord ts us) (u : Uq ts) (key : Int) : readsP (flat us) key = docReads ts key := by
  rw [readsP, reads_flat key us [] (by simp) h.2, flatMap_com, docReads, ← ids_ord h, idsOf, List.flatMap_map]
  exact flatMap_same fun t ht => by rw [docTxn_of u (h.1.mem_iff.1 (List.mem_filter.1 ht).1)]
end
end Go.Proofs.YtkinmllflodhaaaGreat.Tab

/- The sets that Check keeps: of numbers, and of values with their keys. -/
namespace Go.Proofs.YtkinmllflodhaaaGreat.Keys
open Go.RowKit Go.Proofs.YtkinmllflodhaaaGreat.Dig Go.Proofs.YtkinmllflodhaaaGreat.Mem Go.Maps
set_option linter.unusedVariables false
set_option linter.unusedSimpArgs false

set_option maxRecDepth 100000 in
theorem rowEApp : (156 : TypeId) < Tryz.prog.types.size := of_decide_eq_true (by kernel_rfl)
theorem wideEApp : (match Tryz.prog.underlying 156 with | some (.array _ _) | some (.struct _) => true | _ => false) = true := by kernel_rfl
set_option maxRecDepth 100000 in
theorem lawEApp : Keyed Tryz.prog 156 := Keyed.of_law (deep_law_laid Frame.laidOut (m := 2) (by omega) rowEApp (by kernel_rfl) wideEApp)
theorem ktEApp : Tryz.prog.keyType 156 = true := by kernel_rfl
theorem cellsEApp : Tryz.prog.cellsOf 156 = 2 := by kernel_rfl
theorem keyEApp {k v : Int} (hk : (Lit.int .i64 k).wf = true) (hv : (Lit.int .i64 v).wf = true) : keyOf Tryz.prog 156 (.agg #[.int .i64 k, .int .i64 v]) = some (.string (keyBytes [.int .i64 k, .int .i64 v])) := by
  obtain ⟨m, hm⟩ := sizes
  unfold keyOf
  simp only [Tryz.underlying156]
  rw [if_pos (by simp [ktEApp, Value.formed, Tryz.underlying156, cellsEApp]), hm]
  simp [Program.keyLits, Tryz.underlying156, cellsEApp, cellsInt, Value.cells, go_sem, hk, hv, Tryz.underlying3]
theorem eappIs : KeyIs 156 appV appL appOk := ⟨lawEApp, fun x hx => keyEApp hx.1 hx.2, fun x y h => by simp [appV] at h; exact Prod.ext h.1 h.2⟩
def idV (n : Int) : Value := .int .i64 n
def idL (n : Int) : Lit := .int .i64 n
theorem keyId {n : Int} (hw : (Lit.int .i64 n).wf = true) : keyOf Tryz.prog 3 (idV n) = some (idL n) := by
  unfold keyOf idV idL
  simp [Tryz.underlying3, mapKey, hw]
theorem idIs : KeyIs 3 idV idL nameOk := ⟨int_keyed Tryz.underlying3, fun x hx => keyId hx, fun x y h => by simpa [idV] using h⟩
def Ids (w : World) (b n : Nat) (P : Int → Bool) : Prop := SetAt 3 idV idL nameOk w b n P
def EVals (w : World) (b n : Nat) (P : Int × Int → Bool) : Prop := SetAt 156 appV appL appOk w b n P
theorem Ids.keep {w w' : World} {b n : Nat} {P : Int → Bool} {S : Nat → Prop} (h : Ids w b n P) (ho : Only S w w') (hb : ¬ S b) : Ids w' b n P := SetAt.keep h ho hb
theorem EVals.keep {w w' : World} {b n : Nat} {P : Int × Int → Bool} {S : Nat → Prop} (h : EVals w b n P) (ho : Only S w w') (hb : ¬ S b) : EVals w' b n P := SetAt.keep h ho hb
theorem Ids.look {w : World} {b n : Nat} {P : Int → Bool} (h : Ids w b n P) {x : Int} (hx : (Lit.int .i64 x).wf = true) : (Instr.lookup 121 (.map (some b)) (.int .i64 x) true).run Tryz.prog w = .ok (.tuple #[.agg #[], .bool (P x)]) w := SetAt.look h idIs Tryz.underlying121 hx
theorem EVals.look {w : World} {b n : Nat} {P : Int × Int → Bool} (h : EVals w b n P) {x y : Int} (hx : (Lit.int .i64 x).wf = true) (hy : (Lit.int .i64 y).wf = true) : (Instr.lookup 122 (.map (some b)) (.agg #[.int .i64 x, .int .i64 y]) true).run Tryz.prog w = .ok (.tuple #[.agg #[], .bool (P (x, y))]) w := SetAt.look (x := (x, y)) h eappIs Tryz.underlying122 ⟨hx, hy⟩
theorem Ids.store {w : World} {b n : Nat} {P : Int → Bool} (h : Ids w b n P) {x : Int} (hx : (Lit.int .i64 x).wf = true) (hn : n < 1000000) :
    ∃ w', (Instr.mapUpdate 121 (.map (some b)) (.int .i64 x) (.agg #[])).run Tryz.prog w = .ok () w' ∧ Ids w' b (n + 1) (fun y => P y || x == y) ∧ Only (fun k => k = b) w w' :=
  SetAt.store h idIs Tryz.underlying121 hx (by unfold maxLen; omega) (by simp) (fun y hy => by simp [Ne.symm hy])
theorem EVals.store {w : World} {b n : Nat} {P : Int × Int → Bool} (h : EVals w b n P) {x y : Int} (hx : (Lit.int .i64 x).wf = true) (hy : (Lit.int .i64 y).wf = true) (hn : n < 1000000) :
    ∃ w', (Instr.mapUpdate 122 (.map (some b)) (.agg #[.int .i64 x, .int .i64 y]) (.agg #[])).run Tryz.prog w = .ok () w' ∧ EVals w' b (n + 1) (fun p => P p || (x == p.1 && y == p.2)) ∧ Only (fun k => k = b) w w' :=
  SetAt.store (x := (x, y)) h eappIs Tryz.underlying122 ⟨hx, hy⟩ (by unfold maxLen; omega) (by simp) (fun p hp => by
    by_cases e : x = p.1
    · by_cases e2 : y = p.2
      · exact absurd (Prod.ext e.symm e2.symm) hp
      · simp [e2]
    · simp [e])
end Go.Proofs.YtkinmllflodhaaaGreat.Keys

/- A row of numbers that a call made itself, and what an append to it leaves: of another row, whatever its address, and of a string's bytes. -/
namespace Go.Proofs.YtkinmllflodhaaaGreat.Dig
open Go.RowKit
set_option linter.unusedVariables false
set_option linter.unusedSimpArgs false

/-- v is a row of the call's own (its blocks are numbered from base on) that holds the numbers l. -/
def Own (e : TypeId) (k : IntKind) (base : Nat) (w : World) (v : Value) (l : List Int) : Prop := w.ownsRow base e 1 v l.length (l.map (Value.int k))

theorem Own.nil (e : TypeId) (k : IntKind) (base : Nat) (w : World) : Own e k base w (.slice none 0 0) [] := World.ownsRow_nil _ _ _ _
theorem Own.empty (e : TypeId) (k : IntKind) (base : Nat) (w : World) (n : Nat) (hn : n = w.heap.size) (hb : base ≤ w.heap.size) : Own e k base (w.alloc (.cells #[] e)) (.slice (some ⟨n, 0, none⟩) 0 0) [] := by
  subst hn
  exact World.ownsRow_made w #[] 0 hb (by unfold maxLen; omega) (by simp)
theorem Own.lt {e : TypeId} {k : IntKind} {base : Nat} {w : World} {v : Value} {l : List Int} (h : Own e k base w v l) : ∀ b, v.ownBlock = some b → base ≤ b ∧ b < w.heap.size := World.ownsRow.lt h
theorem Own.keep {e : TypeId} {k : IntKind} {base : Nat} {w w' : World} {v : Value} {l : List Int} (h : Own e k base w v l) (hb : Below w.heap.size w w') : Own e k base w' v l := by
  refine ⟨h.1, ?_⟩
  rcases h.2 with hn | ⟨g, cap, cur, rfl, hg, hh, r⟩
  · exact .inl hn
  · have hlt : g < w.heap.size := by
      rcases Nat.lt_or_ge g w.heap.size with q | q
      · exact q
      · simp [Array.getElem?_eq_none q] at hh
    exact .inr ⟨g, cap, cur, rfl, hg, by rw [hb.block g hlt]; exact hh, r⟩
theorem Own.alloc {e : TypeId} {k : IntKind} {base : Nat} {w : World} {v : Value} {l : List Int} (h : Own e k base w v l) (o : Obj) : Own e k base (w.alloc o) v l := World.ownsRow.alloc h o
/-- Its shape, and how it is read. -/
theorem Own.shape {e : TypeId} {k : IntKind} {base : Nat} {w : World} {v : Value} {l : List Int} (h : Own e k base w v l) (hl : l.length ≤ 1000000000000) (hw : ∀ n ∈ l, (Lit.int k n).wf = true) :
    ∃ a cap, v = .slice a l.length cap ∧ l.length ≤ cap ∧ Rd k w a l.length (fun i => l.getD i 0) := by
  have h' := h
  unfold Own at h'
  rcases h.2 with ⟨hv, h0⟩ | ⟨g, cap, cur, hv, hg, hh, hc1, hc2, hc3, hc4⟩
  · have : l = [] := by cases l with
      | nil => rfl
      | cons x l => simp at h0
    subst this
    exact ⟨none, 0, hv, by simp, by simp, fun i hi => by simp at hi⟩
  · refine ⟨_, cap, hv, hc1, hl, fun i hi => ⟨g, 0, rfl, ?_, ?_⟩⟩
    · subst hv
      rw [Nat.zero_add, h'.cellAt i (by omega)]
      simp [List.getD_eq_getElem?_getD, List.getElem?_eq_getElem hi]
    · simp only [List.getD_eq_getElem?_getD, List.getElem?_eq_getElem hi, Option.getD_some]
      exact hw _ (List.getElem_mem hi)

/-- The same with its length and its elements named. -/
theorem Own.view {e : TypeId} {k : IntKind} {base : Nat} {w : World} {v : Value} {l : List Int} (h : Own e k base w v l) (hl : l.length ≤ 1000000000000) (hw : ∀ n ∈ l, (Lit.int k n).wf = true) :
    ∃ a cap n z, v = .slice a n cap ∧ Hid (n = l.length) ∧ Hid (z = fun i => l.getD i 0) ∧ n ≤ cap ∧ Rd k w a n z := by
  obtain ⟨a, cap, rfl, h1, h2⟩ := h.shape hl hw
  exact ⟨a, cap, _, _, rfl, rfl, rfl, h1, h2⟩
theorem wf_u8 {n : Int} (h0 : 0 ≤ n) (h1 : n ≤ 255) : (Lit.int .u8 n).wf = true := WalkArith.wf_u8 (by omega)
theorem wf_txtI (n : Nat) : ∀ x ∈ (txt n).map (fun b : UInt8 => (b.toNat : Int)), (Lit.int .u8 x).wf = true := by
  intro x hx
  obtain ⟨b, _, rfl⟩ := List.mem_map.1 hx
  have := b.toNat_lt
  exact wf_u8 (by omega) (by omega)

section
variable {P : Program} {w w0 : World} {ops : Array Oper} {rest : List Oper} {o : Oper} {a : Act} {Q : Exit → Act → World → Prop}
/-- append(v, x...), x whatever row of numbers. -/
theorem app_slice (hgd : o.guard = none) (s x : Operand) (t : TypeId) (ho : o.op = .call { callee := .builtin .append, args := #[s, x], argTypes := #[t, t] })
    (e : TypeId) (i : TypeInfo) (z : Value) (bytes : Nat) (ht : P.underlying t = some (.slice e)) (hi : P.info? e = some i) (hz : i.zero = some z) (hsize : i.size = 1) (hby : i.bytes = bytes) (hzs : z.cells.size = 1) (hb8 : bytes ≤ 8)
    (k : IntKind) (base : Nat) (v : Value) (l : List Int) (hs : a.eval s = v) (hown : Own e k base w v l) (ao : Option Addr) (m c : Nat) (ns : List Int) (hx : a.eval x = .slice ao m c) (hm : ns.length = m)
    (hr : Rd k w ao m (fun i => ns.getD i 0)) (hnil : ao = none → m = 0 ∧ c = 0) (hb : l.length + m ≤ 1000000) (hbase : base ≤ w.heap.size) (B : Nat) (hB : B ≤ base) (hbel : Below B w0 w)
    (h : ∀ v' w', Own e k base w' v' (l ++ ns) → Below B w0 w' → w.heap.size ≤ w'.heap.size → wpList P ops Q rest (a.put o.dst v') w') : wpList P ops Q (o :: rest) a w := by
  cases ao with
  | none =>
    obtain ⟨rfl, rfl⟩ := hnil rfl
    have : ns = [] := List.eq_nil_of_length_eq_zero hm
    subst this
    exact wpList_append_own_none hgd s x t ho base e i 1 ht hi v l.length (l.map (Value.int k)) hs hown hx (h v w (by simpa using hown) hbel (Nat.le_refl _))
  | some ad =>
    refine wpList_append_own w hgd s x t ho base e i z 1 bytes ht hi hz hsize hby hzs (by omega) v l.length (l.map (Value.int k)) hs hown ad m c (ns.map (Value.int k)) hx (by simp [hm]) ?_ ?_ (by unfold maxLen; omega) ?_ hbase ?_
    · intro j u hu
      rw [List.getElem?_map] at hu
      have hj : j < ns.length := by
        rcases Nat.lt_or_ge j ns.length with q | q
        · exact q
        · rw [List.getElem?_eq_none q] at hu; simp at hu
      obtain ⟨b, off, hab, hc, _⟩ := hr.2 j (by omega)
      obtain rfl := Option.some.inj hab
      rw [Addr.add_lit, hc, ← hu]
      simp [List.getD_eq_getElem?_getD, List.getElem?_eq_getElem hj]
    · intro u hu
      obtain ⟨n, _, rfl⟩ := List.mem_map.1 hu
      rfl
    · have : (l.length + m) * bytes ≤ (l.length + m) * 8 := Nat.mul_le_mul_left _ hb8
      omega
    · intro v' w' hown' hgrow _
      refine h v' w' ?_ (hbel.grown hgrow (Nat.le_trans hB hbase) (fun k hk => Nat.le_trans hB (hown.lt k hk).1)) hgrow.size
      unfold Own
      rw [List.length_append, List.map_append, hm]
      exact hown'
theorem strCells_of (l : List UInt8) : Lib.strCells ⟨l.toArray⟩ = (l.map fun b => (b.toNat : Int)).map (Value.int .u8) := by simp [Lib.strCells, Function.comp_def]
/-- append(v, s...), s a string. -/
theorem app_string (hgd : o.guard = none) (s x : Operand) (t u : TypeId) (ho : o.op = .call { callee := .builtin .append, args := #[s, x], argTypes := #[t, u] })
    (e : TypeId) (i : TypeInfo) (ht : P.underlying t = some (.slice e)) (hu : P.underlying u = some .string) (hi : P.info? e = some i) (hz : i.zero = some (.int .u8 0)) (hsize : i.size = 1) (hby : i.bytes = 1)
    (base : Nat) (v : Value) (l : List Int) (hs : a.eval s = v) (hown : Own e .u8 base w v l) (ns : List UInt8) (hx : a.eval x = .string ⟨ns.toArray⟩)
    (hb : l.length + ns.length ≤ 1000000) (hbase : base ≤ w.heap.size) (B : Nat) (hB : B ≤ base) (hbel : Below B w0 w)
    (h : ∀ v' w', Own e .u8 base w' v' (l ++ ns.map fun b => (b.toNat : Int)) → Below B w0 w' → w.heap.size ≤ w'.heap.size → wpList P ops Q rest (a.put o.dst v') w') : wpList P ops Q (o :: rest) a w := by
  have hsz : ByteArray.size ⟨ns.toArray⟩ = ns.length := by simp [ByteArray.size]
  refine Lib.wpList_append_own_string w hgd s x t u ho base e i ht hu hi hz hsize hby v l.length (l.map (Value.int .u8)) hs hown ⟨ns.toArray⟩ hx (by rw [hsz]; unfold maxLen; omega) (by rw [hsz]; omega) hbase ?_
  intro v' w' hown' hgrow _
  refine h v' w' ?_ (hbel.grown hgrow (Nat.le_trans hB hbase) (fun k hk => Nat.le_trans hB (hown.lt k hk).1)) hgrow.size
  unfold Own
  rw [List.length_append, List.map_append, List.length_map, ← strCells_of]
  rw [hsz] at hown'
  exact hown'
end
end Go.Proofs.YtkinmllflodhaaaGreat.Dig

/- Rows of numbers that are read, or that are a call's own; parts of them; append; the document's Same. -/
namespace Go.Proofs.YtkinmllflodhaaaGreat.Dq
open Go.RowKit Go.Proofs.YtkinmllflodhaaaGreat.Dig Go.Proofs.YtkinmllflodhaaaGreat.Mem
set_option linter.unusedVariables false
set_option linter.unusedSimpArgs false

/-- A slice value that reads a list of numbers. -/
structure RowI (w : World) (a : Option Addr) (c : Nat) (l : List Int) : Prop where
  cap : l.length ≤ c
  rd : Rd .i64 w a l.length (fun i => l.getD i 0)
  nil : a = none → c = 0
theorem RowI.keep {w w' : World} {a : Option Addr} {c : Nat} {l : List Int} (h : RowI w a c l) (hb : Below w.heap.size w w') : RowI w' a c l := ⟨h.cap, h.rd.keep hb, h.nil⟩
theorem RowI.at {w : World} {a : Option Addr} {c : Nat} {l : List Int} (h : RowI w a c l) {i : Nat} (hi : i < l.length) : ∃ b off, a = some ⟨b, off, none⟩ ∧ w.cell? ⟨b, off + i, none⟩ = some (.int .i64 (l.getD i 0)) := by
  obtain ⟨b, off, e, hc, _⟩ := h.rd.2 i hi
  exact ⟨b, off, e, hc⟩
theorem RowI.wf {w : World} {a : Option Addr} {c : Nat} {l : List Int} (h : RowI w a c l) : ∀ n ∈ l, (Lit.int .i64 n).wf = true := fun n hn => by
  obtain ⟨i, hi, e⟩ := List.getElem_of_mem hn
  obtain ⟨_, _, _, _, hw⟩ := h.rd.2 i hi
  have : (fun i => l.getD i 0) i = n := by show l.getD i 0 = n; rw [List.getD_eq_getElem?_getD, List.getElem?_eq_getElem hi]; exact e
  rw [this] at hw
  exact hw
theorem Tryz.infoInt : (Tryz.prog.info? 3).map (fun i => (i.zero, i.size, i.bytes)) = some (some (.int .i64 0), 1, 8) := by kernel_rfl
def OwnI (base : Nat) (w : World) (v : Value) (l : List Int) : Prop := w.ownsRow base 3 1 v l.length (l.map (Value.int .i64))
/-- A row that lies in no block older than B. -/
def Fresh (B : Nat) (a : Option Addr) : Prop := ∀ x, a = some x → B ≤ x.block
theorem fresh_own {w : World} {base e : TypeId} {a : Option Addr} {n c : Nat} {xs : List Value} (h : w.ownsRow base e 1 (.slice a n c) n xs) : Fresh base a := fun x e => by
  subst e
  exact (World.ownsRow.lt h x.block rfl).1
theorem OwnI.row {base : Nat} {w : World} {v : Value} {l : List Int} (h : OwnI base w v l) (hl : l.length ≤ 1000000000000) (hw : ∀ n ∈ l, (Lit.int .i64 n).wf = true) : ∃ a c, v = .slice a l.length c ∧ RowI w a c l ∧ Fresh base a := by
  obtain ⟨a, cap, e, h1, h2⟩ := Rd.own h hl hw
  refine ⟨a, cap, e, ⟨h1, h2, fun q => ?_⟩, by subst e; exact fresh_own h⟩
  subst q
  rcases h.2 with ⟨hv, _⟩ | ⟨g, cap', cur, hv, _⟩
  · rw [hv] at e; injection e with e1 e2 e3; exact e3.symm
  · rw [hv] at e; injection e with e1; cases e1
theorem own_form {w : World} {base e : TypeId} {v : Value} {n : Nat} {xs : List Value} (h : w.ownsRow base e 1 v n xs) : ∃ a c, v = .slice a n c := by
  rcases h.2 with ⟨rfl, h0⟩ | ⟨g, cap, cur, rfl, _⟩
  · have : n = 0 := by omega
    exact ⟨none, 0, by rw [this]⟩
  · exact ⟨_, _, rfl⟩
theorem owns_below {w w' : World} {e base : TypeId} {v : Value} {n : Nat} {xs : List Value} (h : w.ownsRow base e 1 v n xs) (hb : Below w.heap.size w w') : w'.ownsRow base e 1 v n xs := by
  refine ⟨h.1, ?_⟩
  rcases h.2 with hn | ⟨g, cap, cur, rfl, hg, hh, r⟩
  · exact .inl hn
  · have hlt : g < w.heap.size := by
      rcases Nat.lt_or_ge g w.heap.size with q | q
      · exact q
      · simp [Array.getElem?_eq_none q] at hh
    exact .inr ⟨g, cap, cur, rfl, hg, by rw [hb.block g hlt]; exact hh, r⟩
/-- A row, up to a place. -/
theorem rowi_take {w : World} {a : Option Addr} {c : Nat} {l : List Int} (hW : RowI w a c l) (m : Nat) : RowI w a c (l.take m) := by
  refine ⟨by have := hW.cap; rw [List.length_take]; omega, ⟨by have := hW.rd.1; rw [List.length_take]; omega, fun i hi => ?_⟩, fun e => ?_⟩
  · rw [List.length_take] at hi
    obtain ⟨b, off, rfl, hcell, hwf⟩ := hW.rd.2 i (by omega)
    have him : i < m := by omega
    have e : (l.take m).getD i 0 = l.getD i 0 := by simp [List.getD_eq_getElem?_getD, List.getElem?_take, him]
    refine ⟨b, off, rfl, ?_, ?_⟩
    · show _ = some (Value.int .i64 ((l.take m).getD i 0))
      rw [e]
      exact hcell
    · show (Lit.int .i64 ((l.take m).getD i 0)).wf = true
      rw [e]
      exact hwf
  · have := hW.nil e
    omega
/-- A row, from a place on. -/
theorem slice_from {w : World} {a : Option Addr} {c : Nat} {l : List Int} (h : RowI w a c l) (m : Nat) (hm : m ≤ l.length) :
    ∃ a2 c2, (∀ W : World, (Instr.slice 36 (.slice a l.length c) (some (.int .i64 (m : Int))) none none).run Tryz.prog W = .ok (.slice a2 (l.drop m).length c2) W) ∧ ∀ W, RowI W a c l → RowI W a2 c2 (l.drop m) := by
  have hel : Tryz.prog.elem 36 = 3 := by kernel_rfl
  have hu : Tryz.prog.underlying 36 = some (.slice (Tryz.prog.elem 36)) := by rw [hel]; exact Tryz.underlying36
  have hr : ∀ W : World, (Instr.slice 36 (.slice a l.length c) (some (.int .i64 (m : Int))) none none).run Tryz.prog W = .ok (sliced a m l.length c 1) W := fun W => by
    rw [run_slice_l (t := 36) (a := a) (len := l.length) (cap := c) (w := W) hu .i64 (m : Int) (by omega) (by omega), hel, Tryz.sizeOf3]
    simp [Result.andThen]
  refine ⟨if c = m then a else a.map (·.add (m * 1)), c - m, fun W => by rw [hr W, List.length_drop]; rfl, fun W hW => ⟨by have := hW.cap; rw [List.length_drop]; omega, ⟨by have := hW.rd.1; rw [List.length_drop]; omega, fun i hi => ?_⟩, fun e => ?_⟩⟩
  · rw [List.length_drop] at hi
    have hc := hW.cap
    obtain ⟨b, off, rfl, hcell, hwf⟩ := hW.rd.2 (m + i) (by omega)
    have e : (l.drop m).getD i 0 = l.getD (m + i) 0 := by simp [List.getD_eq_getElem?_getD]
    refine ⟨b, off + m, ?_, ?_, ?_⟩
    · rw [if_neg (by omega), Nat.mul_one]
      simp [Addr.add_lit]
    · show _ = some (Value.int .i64 ((l.drop m).getD i 0))
      rw [e, Nat.add_assoc]
      exact hcell
    · show (Lit.int .i64 ((l.drop m).getD i 0)).wf = true
      rw [e]
      exact hwf
  · have : a = none := by
      split at e
      · exact e
      · cases a with
        | none => rfl
        | some x => simp at e
    have := hW.nil this
    omega
/-- append of a row that is read. -/
theorem app_rowi {w w0 : World} {ops : Array Oper} {rest : List Oper} {o : Oper} {a : Act} {Q : Exit → Act → World → Prop} (hgd : o.guard = none) (s x : Operand)
    (ho : o.op = .call { callee := .builtin .append, args := #[s, x], argTypes := #[36, 36] }) (base : Nat) (v : Value) (l : List Int) (hs : a.eval s = v) (hown : Dig.Own 3 .i64 base w v l)
    (ao : Option Addr) (c m : Nat) (r : List Int) (hx : a.eval x = .slice ao m c) (hm : m = r.length) (hr : RowI w ao c r) (hb : l.length + r.length ≤ 1000000) (hbase : base ≤ w.heap.size) (hbel : Below base w0 w)
    (h : ∀ v' w', Dig.Own 3 .i64 base w' v' (l ++ r) → Below base w0 w' → w.heap.size ≤ w'.heap.size → wpList Tryz.prog ops Q rest (a.put o.dst v') w') : wpList Tryz.prog ops Q (o :: rest) a w := by
  obtain ⟨i0, hi, hz0, hz1, hz2⟩ := info_parts Tryz.infoInt
  subst hm
  refine app_slice hgd s x 36 ho 3 i0 (.int .i64 0) 8 Tryz.underlying36 hi hz0 hz1 hz2 rfl (by decide) .i64 base v l hs hown ao r.length c r hx rfl hr.rd (fun e => ⟨?_, hr.nil e⟩) (by omega) hbase base (Nat.le_refl _) hbel h
  cases r with
  | nil => rfl
  | cons y r => obtain ⟨b, off, e', _⟩ := hr.at (i := 0) (by simp); rw [e] at e'; cases e'
theorem ext_getI {a b : List Int} (hl : a.length = b.length) (h : ∀ k, k < a.length → a.getD k 0 = b.getD k 0) : a = b := by
  apply List.ext_getElem hl
  intro i h1 h2
  have := h i h1
  rw [List.getD_eq_getElem?_getD, List.getD_eq_getElem?_getD, List.getElem?_eq_getElem h1, List.getElem?_eq_getElem h2] at this
  exact this
set_option maxHeartbeats 1000000 in
theorem same_is (x y : Option Addr) (c d : Nat) (a b : List Int) (w : World) (ha : RowI w x c a) (hb : RowI w y d b) :
    Calls Tryz.prog 18 #[.slice x a.length c, .slice y b.length d] w fun e w' => e = .returned (.bool (decide (a = b))) ∧ Below w.heap.size w w' := by
  have l1 := ha.rd.le
  have l2 := hb.rd.le
  by_cases hl : a.length = b.length
  · have HA := hide ha
    have HB := hide hb
    have HX := hide (ext_getI hl)
    obtain ⟨n, hn⟩ : ∃ n, n = a.length := ⟨_, rfl⟩
    have hnb : b.length = n := by rw [hn]; omega
    have HN := hide hn
    have HNB := hide hnb
    rw [← hn, hnb]
    rw [← hn] at l1 HX
    have g0 : ((n : Int) != n) = false := by simp
    clear ha hb hl hn hnb l2
    go_enter Tryz.func18, Tryz.ntmps18
    go_wp2
    go_loopw [5] (fun i wr => (∃ k : Nat, k ≤ n ∧ i = .int .i64 (k : Int) ∧ Hid (∀ j, j < k → a.getD j 0 = b.getD j 0)) ∧ Hid (Below w.heap.size w wr)) (fun i _ => n - (intOf i).toNat)
    case atStart => exact ⟨⟨0, by omega, rfl, fun j hj => by omega⟩, Below.refl _ _⟩
    case round =>
      obtain ⟨⟨k, hk, rfl, hx⟩, hbel⟩ := hrel
      by_cases hlt : k < n
      · obtain ⟨b1, o1, rfl, hc1⟩ := (HA.out.keep hbel.out).at (show k < a.length by rw [← HN.out]; exact hlt)
        obtain ⟨b2, o2, rfl, hc2⟩ := (HB.out.keep hbel.out).at (show k < b.length by rw [HNB.out]; exact hlt)
        obtain ⟨p, hp⟩ : ∃ p, p = a.getD k 0 := ⟨_, rfl⟩
        obtain ⟨q, hq⟩ : ∃ q, q = b.getD k 0 := ⟨_, rfl⟩
        rw [← hp] at hc1
        rw [← hq] at hc2
        have HP := hide hp
        have HQ := hide hq
        clear hp hq
        by_cases hpq : p = q
        · have g1 : (p != q) = false := by simp [hpq]
          have HE := hide hpq
          clear hpq
          go_wp2
          go_region
          all_goals
            go_wp2
            go_roundw
            case rel => exact ⟨⟨k + 1, by omega, by go_num, fun j hj => by
              by_cases e : j = k
              · subst e; rw [← HP.out, ← HQ.out]; exact HE.out
              · exact hx.out j (by omega)⟩, by (repeat (first | exact hbel.out | apply Below.drew))⟩
            case measure => simp [intOf]; omega
        · have g1 : (p != q) = true := by simp [hpq]
          have HE : Hid (decide (a = b) = false) := by
            show _ = _
            rw [decide_eq_false_iff_not]
            intro e
            exact hpq (by rw [HP.out, HQ.out, e])
          clear hpq
          go_wp2
          go_region
          all_goals
            go_wp2
            go_ret
            rw [HE.out]
            exact ⟨rfl, by (repeat (first | exact hbel.out | apply Below.drew))⟩
      · obtain rfl : n = k := by omega
        have HE : Hid (decide (a = b) = true) := hide (decide_eq_true (HX.out hx.out))
        have hge : ¬ (n : Int) < n := by omega
        go_wp2
        go_ret
        rw [HE.out]
        exact ⟨rfl, hbel.out⟩
  · have HE : Hid (decide (a = b) = false) := by
      show _ = _
      rw [decide_eq_false_iff_not]
      intro e
      exact hl (by rw [e])
    obtain ⟨n, hn⟩ : ∃ n, n = a.length := ⟨_, rfl⟩
    obtain ⟨m, hm⟩ : ∃ m, m = b.length := ⟨_, rfl⟩
    rw [← hn, ← hm] at hl ⊢
    have g0 : ((n : Int) != m) = true := by simp; omega
    clear ha hb hl hn hm l1 l2
    go_enter Tryz.func18, Tryz.ntmps18
    go_wp2
    go_ret
    rw [HE.out]
    exact ⟨rfl, Below.refl _ _⟩
end Go.Proofs.YtkinmllflodhaaaGreat.Dq

/- append to a row of numbers of the call's own, within a region that draws; a row that is laid. -/
namespace Go.Proofs.YtkinmllflodhaaaGreat.Dq
open Go.RowKit Go.Proofs.YtkinmllflodhaaaGreat.Dig Go.Proofs.YtkinmllflodhaaaGreat.Mem
set_option linter.unusedVariables false
set_option linter.unusedSimpArgs false

def WfL (l : List Int) : Prop := ∀ x ∈ l, (Lit.int .i64 x).wf = true
/-- A row of numbers is laid. -/
theorem rowi_made (wx : World) (zs : List Int) (T : TypeId) {p n : Nat} (hp : p = wx.heap.size) (hn : n = zs.length) (hl : zs.length ≤ 100) (hw : WfL zs) : RowI (wx.alloc (.cells (zs.map (Value.int .i64)).toArray T)) (some ⟨p, 0, none⟩) n zs :=
  ⟨by omega, ⟨by omega, fun i hi => ⟨p, 0, rfl, (Is.made wx _ T hp).cell _ (by simp [List.getD_eq_getElem?_getD, List.getElem?_eq_getElem hi]), by
    show (Lit.int .i64 (zs.getD i 0)).wf = true
    rw [List.getD_eq_getElem?_getD, List.getElem?_eq_getElem hi]
    exact hw _ (List.getElem_mem hi)⟩⟩, fun e => by cases e⟩
theorem OwnI.empty {base b : Nat} {w : World} (hb : b = w.heap.size) (hB : base ≤ w.heap.size) : OwnI base (w.alloc (.cells #[] 3)) (.slice (some ⟨b, 0, none⟩) 0 0) [] := by
  subst hb
  exact World.ownsRow_made (e := 3) (size := 1) w #[] 0 hB (by unfold maxLen; omega) rfl
theorem OwnI.keep {base : Nat} {w w' : World} {v : Value} {l : List Int} (h : OwnI base w v l) (hb : Below w.heap.size w w') : OwnI base w' v l := owns_below h hb
/-- append of a row that is read, at a step of a region that draws. -/
theorem step_app_rowi {w w0 : World} {ops : Array Oper} {o : Oper} {a : Act} {K : Act → World → Prop} {Q : Exit → Act → World → Prop} {E : Prop} (hgd : o.guard = none) (s x : Operand)
    (ho : o.op = .call { callee := .builtin .append, args := #[s, x], argTypes := #[36, 36] }) (base : Nat) (v : Value) (l : List Int) (hs : a.eval s = v) (hown : OwnI base w v l)
    (ao : Option Addr) (c m : Nat) (r : List Int) (hx : a.eval x = .slice ao m c) (hm : m = r.length) (hr : RowI w ao c r) (hb : l.length + r.length ≤ 1000000) (hbase : base ≤ w.heap.size) (hbel : Below base w0 w)
    (h : ∀ v' w', OwnI base w' v' (l ++ r) → Below base w0 w' → w.heap.size ≤ w'.heap.size → K (a.put o.dst v') w') :
    if Region.wanted o (yielded ops a.tmps) = true then Oper.wp Tryz.prog o a w K Q else E := by
  have hw : Region.wanted o (yielded ops a.tmps) = true := by simp [Region.wanted, hgd]
  rw [if_pos hw]
  obtain ⟨i0, hi, hz0, hz1, hz2⟩ := info_parts Tryz.infoInt
  subst hm
  cases ao with
  | none =>
    have hr0 : r = [] := by
      cases r with
      | nil => rfl
      | cons y r => obtain ⟨b, off, e', _⟩ := hr.at (i := 0) (by simp); cases e'
    subst hr0
    have hc : c = 0 := hr.nil rfl
    subst hc
    have hrun := run_append_owned_none (P := Tryz.prog) (w := w) base 36 o.type 3 i0 1 Tryz.underlying36 hi v l.length _ hown
    simp only [List.length_nil] at hx
    unfold Oper.wp
    simp [execOp, ho, resolve, invoke, builtin, hs, hx, hrun, Result.andThen]
    exact h v w (by simpa using hown) hbel (Nat.le_refl _)
  | some ad =>
    refine wp_append_own w s x 36 ho base 3 i0 (.int .i64 0) 1 8 Tryz.underlying36 hi hz0 hz1 hz2 rfl (by decide) v l.length (l.map (Value.int .i64)) hs hown ad r.length c (r.map (Value.int .i64)) hx (by simp) ?_ ?_ (by unfold maxLen; omega) (by omega) hbase ?_
    · intro j u hu
      rw [List.getElem?_map] at hu
      have hj : j < r.length := by
        rcases Nat.lt_or_ge j r.length with q | q
        · exact q
        · rw [List.getElem?_eq_none q] at hu; simp at hu
      obtain ⟨b, off, hab, hc⟩ := hr.at hj
      obtain rfl := Option.some.inj hab
      rw [Addr.add_lit, hc, ← hu]
      simp [List.getD_eq_getElem?_getD, List.getElem?_eq_getElem hj]
    · intro u hu
      obtain ⟨n, _, rfl⟩ := List.mem_map.1 hu
      rfl
    · intro v' w' hown' hgrow _
      refine h v' w' ?_ (hbel.grown hgrow hbase (fun k hk => (World.ownsRow.lt hown k hk).1)) hgrow.size
      unfold OwnI
      rw [List.length_append, List.map_append]
      exact hown'
/-- append of a row that is read, at a step of a region that draws: nothing else than the own row has turned. -/
theorem step_app_g {w : World} {ops : Array Oper} {o : Oper} {a : Act} {K : Act → World → Prop} {Q : Exit → Act → World → Prop} {E : Prop} (hgd : o.guard = none) (s x : Operand)
    (ho : o.op = .call { callee := .builtin .append, args := #[s, x], argTypes := #[36, 36] }) (base : Nat) (v : Value) (l : List Int) (hs : a.eval s = v) (hown : OwnI base w v l)
    (ao : Option Addr) (c m : Nat) (r : List Int) (hx : a.eval x = .slice ao m c) (hm : m = r.length) (hr : RowI w ao c r) (hb : l.length + r.length ≤ 1000000) (hbase : base ≤ w.heap.size)
    (h : ∀ v' w', OwnI base w' v' (l ++ r) → w.grownBy w' v.ownBlock → K (a.put o.dst v') w') :
    if Region.wanted o (yielded ops a.tmps) = true then Oper.wp Tryz.prog o a w K Q else E := by
  have hw : Region.wanted o (yielded ops a.tmps) = true := by simp [Region.wanted, hgd]
  rw [if_pos hw]
  obtain ⟨i0, hi, hz0, hz1, hz2⟩ := info_parts Tryz.infoInt
  subst hm
  cases ao with
  | none =>
    have hr0 : r = [] := by
      cases r with
      | nil => rfl
      | cons y r => obtain ⟨b, off, e', _⟩ := hr.at (i := 0) (by simp); cases e'
    subst hr0
    have hc : c = 0 := hr.nil rfl
    subst hc
    have hrun := run_append_owned_none (P := Tryz.prog) (w := w) base 36 o.type 3 i0 1 Tryz.underlying36 hi v l.length _ hown
    simp only [List.length_nil] at hx
    unfold Oper.wp
    simp [execOp, ho, resolve, invoke, builtin, hs, hx, hrun, Result.andThen]
    exact h v w (by simpa using hown) ⟨rfl, rfl, rfl, Nat.le_refl _, fun _ _ _ => rfl⟩
  | some ad =>
    refine wp_append_own w s x 36 ho base 3 i0 (.int .i64 0) 1 8 Tryz.underlying36 hi hz0 hz1 hz2 rfl (by decide) v l.length (l.map (Value.int .i64)) hs hown ad r.length c (r.map (Value.int .i64)) hx (by simp) ?_ ?_ (by unfold maxLen; omega) (by omega) hbase ?_
    · intro j u hu
      rw [List.getElem?_map] at hu
      have hj : j < r.length := by
        rcases Nat.lt_or_ge j r.length with q | q
        · exact q
        · rw [List.getElem?_eq_none q] at hu; simp at hu
      obtain ⟨b, off, hab, hc⟩ := hr.at hj
      obtain rfl := Option.some.inj hab
      rw [Addr.add_lit, hc, ← hu]
      simp [List.getD_eq_getElem?_getD, List.getElem?_eq_getElem hj]
    · intro u hu
      obtain ⟨n, _, rfl⟩ := List.mem_map.1 hu
      rfl
    · intro v' w' hown' hgrow _
      refine h v' w' ?_ hgrow
      unfold OwnI
      rw [List.length_append, List.map_append]
      exact hown'
/-- What is known of memory in the region: from W on nothing older has turned; the own row; the row of the one number, if it lies already. -/
structure StepK (W : World) (v : Value) (l : List Int) (wx : World) : Prop where
  own : OwnI W.heap.size wx v l
  below : Below W.heap.size W wx
theorem StepK.alloc {W : World} {v : Value} {l : List Int} {wx : World} (h : StepK W v l wx) (o : Obj) : StepK W v l (wx.alloc o) := ⟨owns_below h.own ((Below.refl _ _).alloc (Nat.le_refl _) _), h.below.alloc h.below.size _⟩
theorem StepK.next {W : World} {v v' : Value} {l l' : List Int} {wx wy : World} (h : StepK W v l wx) (ho : OwnI W.heap.size wy v' l') (hg : wx.grownBy wy v.ownBlock) : StepK W v' l' wy := ⟨ho, h.below.grown hg h.below.size (fun k hk => (World.ownsRow.lt h.own k hk).1)⟩
theorem rowi_grown {w w' : World} {a : Option Addr} {c : Nat} {l : List Int} {row : Option Nat} (h : RowI w a c l) (hg : w.grownBy w' row) (hn : ∀ x, a = some x → row ≠ some x.block) : RowI w' a c l :=
  ⟨h.cap, h.rd.only' (S := fun k => row = some k) ⟨hg.os, hg.tape, hg.output, hg.size, fun k hk hn => hg.block k hk (fun e => hn e.symm)⟩ (fun _ x ex q => hn x ex q), h.nil⟩
end Go.Proofs.YtkinmllflodhaaaGreat.Dq

/- What a loop over a function keeps: boxes of variables, and what was there; and where one block may turn. -/
namespace Go.Proofs.YtkinmllflodhaaaGreat.Dq
open Go.RowKit Go.Proofs.YtkinmllflodhaaaGreat.Mem
set_option linter.unusedVariables false
set_option linter.unusedSimpArgs false

/-- A block of cells, while one that is no cells turns. -/
theorem is_off {W V : World} {b : Nat} {cs : Array Value} (h : Is W b cs) {row : Option Nat} (hg : W.grownBy V row) (hr : ∀ r, row = some r → ∃ o : Obj, W.heap[r]? = some o ∧ o.isCells = false) : Is V b cs :=
  h.keep (S := fun k => row = some k) ⟨hg.os, hg.tape, hg.output, hg.size, fun k hk hn => hg.block k hk (fun e => hn e.symm)⟩ (fun q => by
    obtain ⟨T, hT⟩ := h
    obtain ⟨o, h1, h2⟩ := hr _ q
    rw [hT] at h1; cases h1; cases h2)
theorem only_off {S : Nat → Prop} {w W V : World} {B : Nat} (h : Only S w W) (hB : w.heap.size ≤ B) {row : Option Nat} (hg : W.grownBy V row) (hr : ∀ r, row = some r → B ≤ r ∧ ∃ o : Obj, W.heap[r]? = some o ∧ o.isCells = false) : Only S w V :=
  h.trans' (S' := fun k => row = some k) ⟨hg.os, hg.tape, hg.output, hg.size, fun k hk hn => hg.block k hk (fun e => hn e.symm)⟩ (fun i e => .inr (Nat.le_trans hB (hr i e).1))
/-- What a loop keeps that turns blocks of S. -/
structure Fo (S : Nat → Prop) (w : World) (bs : List (Nat × Array Value)) (W : World) : Prop where
  only : Only S w W
  boxes : ∀ r ∈ bs, Is W r.1 r.2
section
variable {S : Nat → Prop} {w W V : World} {bs bs' : List (Nat × Array Value)}
theorem Fo.start (S : Nat → Prop) (w : World) : Fo S w [] w := ⟨Only.refl _ _, by simp⟩
theorem Fo.cell (h : Fo S w bs W) {b : Nat} {c : Array Value} (hb : (b, c) ∈ bs) (i : Nat) {v : Value} (hv : c[i]? = some v) : W.cell? ⟨b, i, none⟩ = some v ∧ W.frozen? ⟨b, i, none⟩ = false := ⟨(h.boxes _ hb).cell i hv, (h.boxes _ hb).frozen i⟩
theorem Fo.one (h : Fo S w bs W) {b : Nat} {v : Value} (hb : (b, #[v]) ∈ bs) : W.cell? ⟨b, 0, none⟩ = some v ∧ W.frozen? ⟨b, 0, none⟩ = false := h.cell hb 0 rfl
theorem Fo.off {B : Nat} (h : Fo S w bs W) (hB : w.heap.size ≤ B) {row : Option Nat} (hg : W.grownBy V row) (hr : ∀ r, row = some r → B ≤ r ∧ ∃ o : Obj, W.heap[r]? = some o ∧ o.isCells = false) : Fo S w bs V :=
  ⟨only_off h.only hB hg hr, fun r hr' => is_off (h.boxes r hr') hg (fun q e => (hr q e).2)⟩
theorem Fo.keep (h : Fo S w bs W) (hb : Below W.heap.size W V) : Fo S w bs V := ⟨h.only.trans (Only.of_below hb), fun r hr => (h.boxes r hr).below hb⟩
theorem Fo.push (h : Fo S w bs W) (cs : Array Value) (T : TypeId) {b : Nat} (hb : b = W.heap.size) : Fo S w ((b, cs) :: bs) (W.alloc (.cells cs T)) :=
  ⟨h.only.alloc _, fun r hr => by
    rcases List.mem_cons.1 hr with rfl | q
    · exact Is.made W cs T hb
    · exact (h.boxes r q).alloc _⟩
theorem Fo.sub (h : Fo S w bs W) (hs : ∀ r ∈ bs', r ∈ bs) : Fo S w bs' W := ⟨h.only, fun r hr => h.boxes r (hs r hr)⟩
/-- A cell of a box is turned. -/
theorem Fo.set {b i : Nat} {c : Array Value} {u : Value} (h : Fo S w ((b, c) :: bs) W) (hb : S b ∨ w.heap.size ≤ b) (hn : ∀ r ∈ bs, r.1 ≠ b) : Fo S w ((b, c.setIfInBounds i u) :: bs) (W.setCell ⟨b, i, none⟩ u) :=
  ⟨h.only.setCell (p := ⟨b, i, none⟩) hb u, fun r hr => by
    rcases List.mem_cons.1 hr with rfl | q
    · exact (h.boxes (b, c) (by simp)).set i u
    · exact (h.boxes r (List.mem_cons_of_mem _ q)).other (p := ⟨b, i, none⟩) (Ne.symm (hn r q)) u⟩
theorem Fo.drewN (h : Fo S w bs W) (m : Nat) : Fo S w bs (W.drewN m) := ⟨h.only.drewN m, fun r hr => (h.boxes r hr).drewN m⟩
/-- From w on nothing older than B has turned. -/
theorem _root_.Go.Proofs.YtkinmllflodhaaaGreat.Mem.Only.of_below' {B : Nat} (h : Below B W V) : Only (fun k => B ≤ k) W V := ⟨h.os, h.tape, h.output, h.size, fun k hk hn => h.block k (Nat.lt_of_not_le hn)⟩
theorem keeps_below (B : Nat) (hb : Below W.heap.size W V) : KeepsFrom B W V := ⟨hb.size, fun k o _ hk _ => (hb.block k (Array.getElem?_eq_some_iff.1 hk).1).trans hk⟩
theorem below_of_drewN (m : Nat) : Below w.heap.size w (w.drewN m) := ⟨rfl, rfl, rfl, Nat.le_refl _, fun _ _ => rfl⟩
theorem grown_of_below (h : Below W.heap.size W V) : W.grownBy V none := ⟨h.os, h.tape, h.output, h.size, fun k hk _ => h.block k hk⟩
theorem abides {B : Nat} {J : List Int → World → Prop} (hJ : AbidesFrom B J) {s : List Int} (h : J s W) (hb : Below W.heap.size W V) : J s V := hJ s W V none h (grown_of_below hb) (fun q e => by cases e)
end
end Go.Proofs.YtkinmllflodhaaaGreat.Dq
