/- Joined out of the texts HistPlain, HistMem, HistOps, in that order. -/
import Derived.Test.YtigmgkcojifbcaaAll2
import Derived.Test.YtigmgkcojifbcaaAll3
import Derived.Laws.OwnMore
import Derived.Deep.QuietTactic
import Derived.BigQuiet
import Derived.Deep.RegionWith
import Derived.Outline
/- The document's history of bytes, as a plain function, line by line. -/
namespace Go.Proofs.Ytigmgkcojifbcaa.Hist
open Go.RowKit Go.Proofs.Ytigmgkcojifbcaa.Dig Go.Proofs.Ytigmgkcojifbcaa.Mem
set_option linter.unusedVariables false
set_option linter.unusedSimpArgs false

/-- What a line leaves: the history, where the next line begins, an error and its place. -/
structure LineR where
  ts : List TxnM
  nx : Nat
  e : Int
  wh : Int
def isB (z : Nat → Int) (len i : Nat) (x : Int) : Bool := decide (i < len ∧ z i = x)
def opsN (ts : List TxnM) : Nat := (ts.map fun t => t.ops.length).sum
def twinB (ts : List TxnM) (id : Int) : Bool := ts.any fun t => t.id == id
def appB (ts : List TxnM) (k v : Int) : Bool := ts.any fun t => t.ops.any fun o => !o.read && o.key == k && o.value == v
def addOp (ts : List TxnM) (o : OpM) : List TxnM := match ts.getLast? with
  | none => ts
  | some t => ts.dropLast ++ [⟨t.id, t.ab, t.ops ++ [o]⟩]
/-- A transaction's line behind its number. -/
def txnT (z : Nat → Int) (len : Nat) (ts : List TxnM) (n : Int) (tz : Nat) : LineR :=
  if isB z len tz 32 = false then ⟨ts, 0, 4, tz⟩ else
  if isB z len (tz + 1) 97 = false ∧ isB z len (tz + 1) 99 = false then ⟨ts, 0, 4, ((tz + 1 : Nat) : Int)⟩ else
  if isB z len (tz + 2) 10 = false then ⟨ts, 0, 4, ((tz + 2 : Nat) : Int)⟩ else ⟨ts ++ [⟨n, z (tz + 1) == 97, []⟩], tz + 3, 0, 0⟩
def txnS (z : Nat → Int) (len : Nat) (ts : List TxnM) (i : Nat) : LineR :=
  if 1024 ≤ ts.length then ⟨ts, 0, 3, i⟩ else
  if isB z len (i + 1) 32 = false then ⟨ts, 0, 4, ((i + 1 : Nat) : Int)⟩ else
  if (parse z len ((i + 2 : Nat) : Int)).2.2 = false then ⟨ts, 0, 4, (parse z len ((i + 2 : Nat) : Int)).2.1⟩ else
  if twinB ts (parse z len ((i + 2 : Nat) : Int)).1 = true then ⟨ts, 0, 5, ((i + 2 : Nat) : Int)⟩ else
  txnT z len ts (parse z len ((i + 2 : Nat) : Int)).1 (parse z len ((i + 2 : Nat) : Int)).2.1.toNat
/-- A line's end, behind an operation. -/
def endL (z : Nat → Int) (len : Nat) (ts : List TxnM) (o : OpM) (tz : Nat) : LineR :=
  if isB z len tz 10 = false then ⟨ts, 0, 4, tz⟩ else ⟨addOp ts o, tz + 1, 0, 0⟩
/-- A read's line behind its key. -/
def readT (z : Nat → Int) (len : Nat) (ts : List TxnM) (k : Int) (tz : Nat) : LineR :=
  if (lst z len (tz : Int)).2.2 = false then ⟨ts, 0, 4, (lst z len (tz : Int)).2.1⟩ else
  endL z len ts ⟨true, k, 0, (lst z len (tz : Int)).1⟩ (lst z len (tz : Int)).2.1.toNat
/-- An append's line behind its key. -/
def appT (z : Nat → Int) (len : Nat) (ts : List TxnM) (k : Int) (tz : Nat) : LineR :=
  if isB z len tz 32 = false then ⟨ts, 0, 4, tz⟩ else
  if (parse z len ((tz + 1 : Nat) : Int)).2.2 = false then ⟨ts, 0, 4, (parse z len ((tz + 1 : Nat) : Int)).2.1⟩ else
  if appB ts k (parse z len ((tz + 1 : Nat) : Int)).1 = true then ⟨ts, 0, 6, ((tz + 1 : Nat) : Int)⟩ else
  endL z len ts ⟨false, k, (parse z len ((tz + 1 : Nat) : Int)).1, []⟩ (parse z len ((tz + 1 : Nat) : Int)).2.1.toNat
def opS (z : Nat → Int) (len : Nat) (most : Int) (ts : List TxnM) (i : Nat) : LineR :=
  if ts.length = 0 then ⟨ts, 0, 4, i⟩ else
  if most ≤ (opsN ts : Int) then ⟨ts, 0, 3, i⟩ else
  if isB z len (i + 1) 32 = false then ⟨ts, 0, 4, ((i + 1 : Nat) : Int)⟩ else
  if (parse z len ((i + 2 : Nat) : Int)).2.2 = false then ⟨ts, 0, 4, (parse z len ((i + 2 : Nat) : Int)).2.1⟩ else
  if z i = 114 then readT z len ts (parse z len ((i + 2 : Nat) : Int)).1 (parse z len ((i + 2 : Nat) : Int)).2.1.toNat
  else appT z len ts (parse z len ((i + 2 : Nat) : Int)).1 (parse z len ((i + 2 : Nat) : Int)).2.1.toNat
def lineS (z : Nat → Int) (len : Nat) (most : Int) (ts : List TxnM) (i : Nat) : LineR :=
  if z i = 116 then txnS z len ts i else if z i = 97 ∨ z i = 114 then opS z len most ts i else ⟨ts, 0, 4, i⟩
def decL (z : Nat → Int) (len : Nat) (most : Int) : Nat → List TxnM → Nat → List TxnM × Int × Int
  | 0, ts, _ => (ts, 0, 0)
  | f + 1, ts, i => if i < len then (if (lineS z len most ts i).e = 0 then decL z len most f (lineS z len most ts i).ts (lineS z len most ts i).nx else ([], (lineS z len most ts i).e, (lineS z len most ts i).wh)) else (ts, 0, 0)
def decS (z : Nat → Int) (len : Nat) (most : Int) : List TxnM × Int × Int :=
  if most < 0 ∨ 4096 < most then ([], 2, 0) else if 262144 < len then ([], 3, 262144) else decL z len most len [] 0

/-! ### What a line looks at -/
theorem isB_iff {z : Nat → Int} {len i : Nat} {x : Int} : isB z len i x = true ↔ i < len ∧ z i = x := by unfold isB; exact decide_eq_true_iff
theorem isB_no {z : Nat → Int} {len i : Nat} {x : Int} : isB z len i x = false ↔ ¬ (i < len ∧ z i = x) := by unfold isB; exact decide_eq_false_iff_not
theorem isB_same {z z' : Nat → Int} {len len' i : Nat} {x : Int} (h : i < len) (h' : i < len') (e : z' i = z i) : isB z' len' i x = isB z len i x := by
  unfold isB; rw [e]; simp [h, h']

/-- A line, from i on: it ends well, behind a byte 10, the only one; or with an error, at a place that is not ahead of it. Either way it looks no further. -/
def Good (f : (Nat → Int) → Nat → LineR) (z : Nat → Int) (len : Nat) (ts : List TxnM) (i : Nat) : Prop :=
  ((f z len).e = 0 ∧ i < (f z len).nx ∧ (f z len).nx ≤ len ∧ z ((f z len).nx - 1) = 10 ∧ (∀ j, i ≤ j → j + 1 < (f z len).nx → z j ≠ 10) ∧ ts.length ≤ (f z len).ts.length ∧ opsN ts ≤ opsN (f z len).ts ∧
    (f z len).wh = 0 ∧ ∀ (z' : Nat → Int) (len' : Nat), (f z len).nx ≤ len' → (∀ j, j < (f z len).nx → z' j = z j) → f z' len' = f z len) ∨
  ((f z len).e ≠ 0 ∧ ∃ w : Nat, (f z len).wh = (w : Int) ∧ i ≤ w ∧ w ≤ len ∧ ((f z len).e = 3 ∨ (f z len).e = 4 ∨ (f z len).e = 5 ∨ (f z len).e = 6) ∧ (w = len → (f z len).e = 4) ∧
    (((f z len).e = 3 ∨ (f z len).e = 4) → w < len → ∀ (z' : Nat → Int) (len' : Nat), w < len' → (∀ j, j ≤ w → z' j = z j) → f z' len' = f z len))
theorem Good.bad {f : (Nat → Int) → Nat → LineR} {z : Nat → Int} {len : Nat} {ts : List TxnM} {i : Nat} {e : Int} {w : Nat} (h : f z len = ⟨ts, 0, e, (w : Int)⟩) (he : e = 3 ∨ e = 4 ∨ e = 5 ∨ e = 6) (hi : i ≤ w) (hw : w ≤ len) (hwl : w = len → e = 4)
    (hl : (e = 3 ∨ e = 4) → w < len → ∀ (z' : Nat → Int) (len' : Nat), w < len' → (∀ j, j ≤ w → z' j = z j) → f z' len' = ⟨ts, 0, e, (w : Int)⟩) : Good f z len ts i := by
  refine .inr ⟨by rw [h]; show e ≠ 0; omega, w, by rw [h], hi, hw, by rw [h]; exact he, by rw [h]; exact hwl, ?_⟩
  rw [h]
  exact hl
theorem Good.ok {f : (Nat → Int) → Nat → LineR} {z : Nat → Int} {len : Nat} {ts ts' : List TxnM} {i nx : Nat} (h : f z len = ⟨ts', nx, 0, 0⟩) (h1 : i < nx) (h2 : nx ≤ len) (h3 : z (nx - 1) = 10) (h4 : ∀ j, i ≤ j → j + 1 < nx → z j ≠ 10)
    (h5 : ts.length ≤ ts'.length) (h6 : opsN ts ≤ opsN ts') (hl : ∀ (z' : Nat → Int) (len' : Nat), nx ≤ len' → (∀ j, j < nx → z' j = z j) → f z' len' = ⟨ts', nx, 0, 0⟩) : Good f z len ts i := by
  refine .inl ?_
  rw [h]
  exact ⟨rfl, h1, h2, h3, h4, h5, h6, rfl, hl⟩
theorem opsN_app (ts us : List TxnM) : opsN (ts ++ us) = opsN ts + opsN us := by simp [opsN]
theorem addOp_len (ts : List TxnM) (o : OpM) : (addOp ts o).length = ts.length := by
  unfold addOp
  cases h : ts.getLast? with
  | none => rfl
  | some t =>
    have : ts ≠ [] := by intro q; subst q; simp at h
    simp
    have : 0 < ts.length := List.length_pos_iff.2 this
    omega
theorem addOp_ops (ts : List TxnM) (o : OpM) (h : ts ≠ []) : opsN (addOp ts o) = opsN ts + 1 := by
  obtain ⟨us, t, rfl⟩ : ∃ us t, ts = us ++ [t] := ⟨_, _, (List.dropLast_concat_getLast h).symm⟩
  simp [addOp, opsN]
  omega

/-- .. a head that leads to g at a place. -/
theorem Good.head {f g : (Nat → Int) → Nat → LineR} {z : Nat → Int} {len : Nat} {ts : List TxnM} {i tz : Nat} (h : Good g z len ts tz) (hfg : f z len = g z len)
    (hloc : tz < len → ∀ (z' : Nat → Int) (len' : Nat), tz < len' → (∀ j, j ≤ tz → z' j = z j) → f z' len' = g z' len') (hi : i ≤ tz) (hn : ∀ j, i ≤ j → j < tz → z j ≠ 10) : Good f z len ts i := by
  rcases h with ⟨e, h1, h2, h3, h4, h5, h6, h7, hl⟩ | ⟨e, w, h1, h2, h3, h4, h5, hl⟩
  · left
    rw [hfg]
    refine ⟨e, by omega, h2, h3, fun j hj hj2 => ?_, h5, h6, h7, fun z' len' hlen hz => ?_⟩
    · rcases Nat.lt_or_ge j tz with q | q
      · exact hn j hj q
      · exact h4 j q hj2
    · rw [hloc (by omega) z' len' (by omega) (fun j hj => hz j (by omega))]
      exact hl z' len' hlen hz
  · right
    rw [hfg]
    refine ⟨e, w, h1, by omega, h3, h4, h5, fun he hw z' len' hlen hz => ?_⟩
    rw [hloc (by omega) z' len' (by omega) (fun j hj => hz j (by omega))]
    exact hl he hw z' len' hlen hz
theorem parse_no10 {z : Nat → Int} {len a t : Nat} {n : Int} (ha : a ≤ len) (h : parse z len (a : Int) = (n, (t : Int), true)) : ∀ j, a ≤ j → j < t → z j ≠ 10 := by
  rcases parse_spec z len a ha with ⟨k, g1, g2, g3, g4, g5, g6⟩ | ⟨k, g2, g3, g4, g5, g6⟩
  · rw [g6] at h
    simp at h
    intro j hj hjt
    have := dgt_iff.1 (g4 (j - a) (by omega))
    rw [show a + (j - a) = j by omega] at this
    omega
  · rw [g6] at h; simp at h
theorem lscan_no10 (z : Nat → Int) (len : Nat) : ∀ (f p : Nat) (acc m : List Int) (t : Nat), p ≤ len → lscan z len f p acc = (m, (t : Int), true) → ∀ j, p ≤ j → j < t → z j ≠ 10
  | 0, p, acc, m, t, hp, h => by simp [lscan] at h; omega
  | f + 1, p, acc, m, t, hp, h => by
    by_cases g : p < len ∧ z p = 32
    · rw [lscan, if_pos g] at h
      rcases parse_two z len (p + 1) (by omega) with ⟨n, u, h1, h2, _, _, hpp⟩ | ⟨u, h1, h2, hpp⟩
      · have hp' : parse z len ((p : Int) + 1) = (n, (u : Int), true) := hpp
        rw [hp'] at h
        simp only [if_true, Int.toNat_natCast] at h
        intro j hj hjt
        rcases Nat.lt_or_ge j u with q | q
        · rcases Nat.eq_or_lt_of_le hj with e | e
          · subst e; rw [g.2]; decide
          · exact parse_no10 (show p + 1 ≤ len by omega) hpp j e q
        · exact lscan_no10 z len f u _ m t h2 h j q hjt
      · have hp' : parse z len ((p : Int) + 1) = (0, (u : Int), false) := hpp
        rw [hp'] at h
        simp at h
    · rw [lscan, if_neg g] at h
      simp at h
      omega
theorem lst_no10 {z : Nat → Int} {len a t : Nat} {m : List Int} (ha : a ≤ len) (h : lst z len (a : Int) = (m, (t : Int), true)) : ∀ j, a ≤ j → j < t → z j ≠ 10 := by
  rw [lst_in ha] at h
  exact lscan_no10 z len _ _ _ m t ha h
theorem lst_ge {z : Nat → Int} {len a : Nat} (ha : a ≤ len) : ∃ (m : List Int) (t : Nat) (ok : Bool), a ≤ t ∧ t ≤ len ∧ lst z len (a : Int) = (m, (t : Int), ok) := by
  rw [lst_in ha]; exact lscan_ge z len _ _ _ ha

theorem endL_good {z : Nat → Int} {len : Nat} {ts : List TxnM} {o : OpM} {tz : Nat} (hto : tz ≤ len) (hts : ts ≠ []) : Good (fun z len => endL z len ts o tz) z len ts tz := by
  by_cases h : isB z len tz 10 = false
  · refine Good.bad (e := 4) (w := tz) (if_pos h) (by omega) (Nat.le_refl _) hto (fun _ => rfl) (fun _ hw z' len' hw' hz => ?_)
    show endL z' len' ts o tz = _
    unfold endL
    rw [isB_same hw hw' (hz tz (Nat.le_refl _)), if_pos h]
  · have hb := isB_iff.1 (by simpa using h)
    refine Good.ok (if_neg h) (by omega) (by omega) hb.2 (fun j hj hj2 => by omega) (by rw [addOp_len]; exact Nat.le_refl _) (by rw [addOp_ops _ _ hts]; omega) (fun z' len' hn hz => ?_)
    show endL z' len' ts o tz = _
    unfold endL
    rw [isB_same hb.1 (by omega) (hz tz (by omega)), if_neg h]
theorem txnT_good {z : Nat → Int} {len : Nat} {ts : List TxnM} {n : Int} {tz : Nat} (hto : tz ≤ len) : Good (fun z len => txnT z len ts n tz) z len ts tz := by
  by_cases h1 : isB z len tz 32 = false
  · refine Good.bad (e := 4) (w := tz) (if_pos h1) (by omega) (Nat.le_refl _) hto (fun _ => rfl) (fun _ hw z' len' hw' hz => ?_)
    show txnT z' len' ts n tz = _
    unfold txnT
    rw [isB_same hw hw' (hz tz (Nat.le_refl _)), if_pos h1]
  · have b1 := isB_iff.1 (by simpa using h1)
    have e1 : ∀ (z' : Nat → Int) (len' : Nat), tz < len' → (∀ j, j ≤ tz → z' j = z j) → isB z' len' tz 32 = isB z len tz 32 := fun z' len' hl hz => isB_same b1.1 hl (hz tz (Nat.le_refl _))
    by_cases h2 : isB z len (tz + 1) 97 = false ∧ isB z len (tz + 1) 99 = false
    · refine Good.bad (e := 4) (w := tz + 1) (by show txnT z len ts n tz = _; unfold txnT; rw [if_neg h1, if_pos h2]) (by omega) (by omega) (by omega) (fun _ => rfl) (fun _ hw z' len' hw' hz => ?_)
      show txnT z' len' ts n tz = _
      unfold txnT
      rw [e1 z' len' (by omega) (fun j hj => hz j (by omega)), if_neg h1, isB_same hw hw' (hz _ (Nat.le_refl _)), isB_same hw hw' (hz _ (Nat.le_refl _)), if_pos h2]
    · have b2 : tz + 1 < len := by
        rcases Nat.lt_or_ge (tz + 1) len with q | q
        · exact q
        · exact absurd ⟨isB_no.2 (by omega), isB_no.2 (by omega)⟩ h2
      have e2 : ∀ (z' : Nat → Int) (len' : Nat) (x : Int), tz + 1 < len' → (∀ j, j ≤ tz + 1 → z' j = z j) → isB z' len' (tz + 1) x = isB z len (tz + 1) x := fun z' len' x hl hz => isB_same b2 hl (hz _ (Nat.le_refl _))
      by_cases h3 : isB z len (tz + 2) 10 = false
      · refine Good.bad (e := 4) (w := tz + 2) (by show txnT z len ts n tz = _; unfold txnT; rw [if_neg h1, if_neg h2, if_pos h3]) (by omega) (by omega) (by omega) (fun _ => rfl) (fun _ hw z' len' hw' hz => ?_)
        show txnT z' len' ts n tz = _
        unfold txnT
        rw [e1 z' len' (by omega) (fun j hj => hz j (by omega)), if_neg h1, e2 z' len' _ (by omega) (fun j hj => hz j (by omega)), e2 z' len' _ (by omega) (fun j hj => hz j (by omega)), if_neg h2, isB_same hw hw' (hz _ (Nat.le_refl _)), if_pos h3]
      · have b3 := isB_iff.1 (by simpa using h3)
        refine Good.ok (ts' := ts ++ [⟨n, z (tz + 1) == 97, []⟩]) (nx := tz + 3) (by show txnT z len ts n tz = _; unfold txnT; rw [if_neg h1, if_neg h2, if_neg h3]) (by omega) (by omega) b3.2 (fun j hj hj2 => ?_) (by simp) (by rw [opsN_app]; omega) (fun z' len' hn hz => ?_)
        · rcases (show j = tz ∨ j = tz + 1 by omega) with rfl | rfl
          · rw [b1.2]; decide
          · intro q
            exact h2 ⟨isB_no.2 (by rw [q]; omega), isB_no.2 (by rw [q]; omega)⟩
        · show txnT z' len' ts n tz = _
          unfold txnT
          rw [e1 z' len' (by omega) (fun j hj => hz j (by omega)), if_neg h1, e2 z' len' _ (by omega) (fun j hj => hz j (by omega)), e2 z' len' _ (by omega) (fun j hj => hz j (by omega)), if_neg h2, isB_same b3.1 (by omega) (hz _ (by omega)), if_neg h3, hz (tz + 1) (by omega)]
theorem readT_good {z : Nat → Int} {len : Nat} {ts : List TxnM} {k : Int} {tz : Nat} (hto : tz ≤ len) (hts : ts ≠ []) : Good (fun z len => readT z len ts k tz) z len ts tz := by
  obtain ⟨m, t, ok, h1, h2, hp⟩ := lst_ge (z := z) hto
  cases ok with
  | false =>
    refine Good.bad (e := 4) (w := t) (by show readT z len ts k tz = _; unfold readT; rw [hp]; simp) (by omega) h1 h2 (fun _ => rfl) (fun _ hw z' len' hw' hz => ?_)
    show readT z' len' ts k tz = _
    unfold readT
    rw [lst_local hto hp hz hw hw']
    simp
  | true =>
    refine Good.head (g := fun z len => endL z len ts ⟨true, k, 0, m⟩ t) (endL_good h2 hts) (by show readT z len ts k tz = _; unfold readT; rw [hp]; simp) (fun hw z' len' hw' hz => ?_) h1 (lst_no10 hto hp)
    show readT z' len' ts k tz = _
    unfold readT
    rw [lst_local hto hp hz hw hw']
    simp
theorem appT_good {z : Nat → Int} {len : Nat} {ts : List TxnM} {k : Int} {tz : Nat} (hto : tz ≤ len) (hts : ts ≠ []) : Good (fun z len => appT z len ts k tz) z len ts tz := by
  by_cases h1 : isB z len tz 32 = false
  · refine Good.bad (e := 4) (w := tz) (if_pos h1) (by omega) (Nat.le_refl _) hto (fun _ => rfl) (fun _ hw z' len' hw' hz => ?_)
    show appT z' len' ts k tz = _
    unfold appT
    rw [isB_same hw hw' (hz tz (Nat.le_refl _)), if_pos h1]
  · have b1 := isB_iff.1 (by simpa using h1)
    have e1 : ∀ (z' : Nat → Int) (len' : Nat), tz < len' → (∀ j, j ≤ tz → z' j = z j) → isB z' len' tz 32 = isB z len tz 32 := fun z' len' hl hz => isB_same b1.1 hl (hz tz (Nat.le_refl _))
    rcases parse_two z len (tz + 1) (by omega) with ⟨n, t, g1, g2, _, _, hp⟩ | ⟨t, g1, g2, hp⟩
    · by_cases ha : appB ts k n = true
      · refine Good.bad (e := 6) (w := tz + 1) (by show appT z len ts k tz = _; unfold appT; rw [if_neg h1, hp]; simp [ha]) (by omega) (by omega) (by omega) (fun q => by omega) (fun q => by omega)
      · refine Good.head (g := fun z len => endL z len ts ⟨false, k, n, []⟩ t) (endL_good g2 hts) (by show appT z len ts k tz = _; unfold appT; rw [if_neg h1, hp]; simp [ha]) (fun hw z' len' hw' hz => ?_) (by omega) (fun j hj hjt => ?_)
        · show appT z' len' ts k tz = _
          unfold appT
          rw [e1 z' len' (by omega) (fun j hj => hz j (by omega)), if_neg h1, parse_local (show tz + 1 ≤ len by omega) hp hz hw hw']
          simp [ha]
        · rcases Nat.eq_or_lt_of_le hj with e | e
          · subst e; rw [b1.2]; decide
          · exact parse_no10 (show tz + 1 ≤ len by omega) hp j e hjt
    · refine Good.bad (e := 4) (w := t) (by show appT z len ts k tz = _; unfold appT; rw [if_neg h1, hp]; simp) (by omega) (by omega) g2 (fun _ => rfl) (fun _ hw z' len' hw' hz => ?_)
      show appT z' len' ts k tz = _
      unfold appT
      rw [e1 z' len' (by omega) (fun j hj => hz j (by omega)), if_neg h1, parse_local (show tz + 1 ≤ len by omega) hp hz hw hw']
      simp
theorem txnS_good {z : Nat → Int} {len : Nat} {ts : List TxnM} {i : Nat} (hi : i < len) (hz0 : z i ≠ 10) : Good (fun z len => txnS z len ts i) z len ts i := by
  by_cases h0 : 1024 ≤ ts.length
  · refine Good.bad (e := 3) (w := i) (if_pos h0) (by omega) (Nat.le_refl _) (by omega) (fun q => by omega) (fun _ hw z' len' hw' hz => if_pos h0)
  by_cases h1 : isB z len (i + 1) 32 = false
  · refine Good.bad (e := 4) (w := i + 1) (by show txnS z len ts i = _; unfold txnS; rw [if_neg h0, if_pos h1]) (by omega) (by omega) (by omega) (fun _ => rfl) (fun _ hw z' len' hw' hz => ?_)
    show txnS z' len' ts i = _
    unfold txnS
    rw [if_neg h0, isB_same hw hw' (hz _ (Nat.le_refl _)), if_pos h1]
  have b1 := isB_iff.1 (by simpa using h1)
  have e1 : ∀ (z' : Nat → Int) (len' : Nat), i + 1 < len' → (∀ j, j ≤ i + 1 → z' j = z j) → isB z' len' (i + 1) 32 = isB z len (i + 1) 32 := fun z' len' hl hz => isB_same b1.1 hl (hz _ (Nat.le_refl _))
  rcases parse_two z len (i + 2) (by omega) with ⟨n, t, g1, g2, _, _, hp⟩ | ⟨t, g1, g2, hp⟩
  · by_cases ha : twinB ts n = true
    · refine Good.bad (e := 5) (w := i + 2) (by show txnS z len ts i = _; unfold txnS; rw [if_neg h0, if_neg h1, hp]; simp [ha]) (by omega) (by omega) (by omega) (fun q => by omega) (fun q => by omega)
    · refine Good.head (g := fun z len => txnT z len ts n t) (txnT_good g2) (by show txnS z len ts i = _; unfold txnS; rw [if_neg h0, if_neg h1, hp]; simp [ha]) (fun hw z' len' hw' hz => ?_) (by omega) (fun j hj hjt => ?_)
      · show txnS z' len' ts i = _
        unfold txnS
        rw [if_neg h0, e1 z' len' (by omega) (fun j hj => hz j (by omega)), if_neg h1, parse_local (show i + 2 ≤ len by omega) hp hz hw hw']
        simp [ha]
      · rcases (show j = i ∨ j = i + 1 ∨ i + 2 ≤ j by omega) with e | e | e
        · subst e; exact hz0
        · subst e; rw [b1.2]; decide
        · exact parse_no10 (show i + 2 ≤ len by omega) hp j e hjt
  · refine Good.bad (e := 4) (w := t) (by show txnS z len ts i = _; unfold txnS; rw [if_neg h0, if_neg h1, hp]; simp) (by omega) (by omega) g2 (fun _ => rfl) (fun _ hw z' len' hw' hz => ?_)
    show txnS z' len' ts i = _
    unfold txnS
    rw [if_neg h0, e1 z' len' (by omega) (fun j hj => hz j (by omega)), if_neg h1, parse_local (show i + 2 ≤ len by omega) hp hz hw hw']
    simp
theorem opS_good {z : Nat → Int} {len : Nat} {most : Int} {ts : List TxnM} {i : Nat} (hi : i < len) (hz0 : z i ≠ 10) : Good (fun z len => opS z len most ts i) z len ts i := by
  by_cases h0 : ts.length = 0
  · refine Good.bad (e := 4) (w := i) (if_pos h0) (by omega) (Nat.le_refl _) (by omega) (fun q => by omega) (fun _ hw z' len' hw' hz => if_pos h0)
  have hts : ts ≠ [] := fun q => h0 (by rw [q]; rfl)
  by_cases h3 : most ≤ (opsN ts : Int)
  · refine Good.bad (e := 3) (w := i) (by show opS z len most ts i = _; unfold opS; rw [if_neg h0, if_pos h3]) (by omega) (Nat.le_refl _) (by omega) (fun q => by omega) (fun _ hw z' len' hw' hz => by show opS z' len' most ts i = _; unfold opS; rw [if_neg h0, if_pos h3])
  by_cases h1 : isB z len (i + 1) 32 = false
  · refine Good.bad (e := 4) (w := i + 1) (by show opS z len most ts i = _; unfold opS; rw [if_neg h0, if_neg h3, if_pos h1]) (by omega) (by omega) (by omega) (fun _ => rfl) (fun _ hw z' len' hw' hz => ?_)
    show opS z' len' most ts i = _
    unfold opS
    rw [if_neg h0, if_neg h3, isB_same hw hw' (hz _ (Nat.le_refl _)), if_pos h1]
  have b1 := isB_iff.1 (by simpa using h1)
  have e1 : ∀ (z' : Nat → Int) (len' : Nat), i + 1 < len' → (∀ j, j ≤ i + 1 → z' j = z j) → isB z' len' (i + 1) 32 = isB z len (i + 1) 32 := fun z' len' hl hz => isB_same b1.1 hl (hz _ (Nat.le_refl _))
  rcases parse_two z len (i + 2) (by omega) with ⟨n, t, g1, g2, _, _, hp⟩ | ⟨t, g1, g2, hp⟩
  · have hno : ∀ j, i ≤ j → j < t → z j ≠ 10 := by
      intro j hj hjt
      rcases (show j = i ∨ j = i + 1 ∨ i + 2 ≤ j by omega) with e | e | e
      · subst e; exact hz0
      · subst e; rw [b1.2]; decide
      · exact parse_no10 (show i + 2 ≤ len by omega) hp j e hjt
    by_cases hr : z i = 114
    · refine Good.head (g := fun z len => readT z len ts n t) (readT_good g2 hts) (by show opS z len most ts i = _; unfold opS; rw [if_neg h0, if_neg h3, if_neg h1, hp]; simp [hr]) (fun hw z' len' hw' hz => ?_) (by omega) hno
      show opS z' len' most ts i = _
      unfold opS
      rw [if_neg h0, if_neg h3, e1 z' len' (by omega) (fun j hj => hz j (by omega)), if_neg h1, parse_local (show i + 2 ≤ len by omega) hp hz hw hw', hz i (by omega)]
      simp [hr]
    · refine Good.head (g := fun z len => appT z len ts n t) (appT_good g2 hts) (by show opS z len most ts i = _; unfold opS; rw [if_neg h0, if_neg h3, if_neg h1, hp]; simp [hr]) (fun hw z' len' hw' hz => ?_) (by omega) hno
      show opS z' len' most ts i = _
      unfold opS
      rw [if_neg h0, if_neg h3, e1 z' len' (by omega) (fun j hj => hz j (by omega)), if_neg h1, parse_local (show i + 2 ≤ len by omega) hp hz hw hw', hz i (by omega)]
      simp [hr]
  · refine Good.bad (e := 4) (w := t) (by show opS z len most ts i = _; unfold opS; rw [if_neg h0, if_neg h3, if_neg h1, hp]; simp) (by omega) (by omega) g2 (fun _ => rfl) (fun _ hw z' len' hw' hz => ?_)
    show opS z' len' most ts i = _
    unfold opS
    rw [if_neg h0, if_neg h3, e1 z' len' (by omega) (fun j hj => hz j (by omega)), if_neg h1, parse_local (show i + 2 ≤ len by omega) hp hz hw hw']
    simp
theorem lineS_good {z : Nat → Int} {len : Nat} {most : Int} {ts : List TxnM} {i : Nat} (hi : i < len) : Good (fun z len => lineS z len most ts i) z len ts i := by
  by_cases h1 : z i = 116
  · refine Good.head (g := fun z len => txnS z len ts i) (txnS_good hi (by rw [h1]; decide)) (if_pos h1) (fun _ z' len' _ hz => ?_) (Nat.le_refl _) (fun j hj hj2 => by omega)
    exact if_pos (by rw [hz i (Nat.le_refl _)]; exact h1)
  by_cases h2 : z i = 97 ∨ z i = 114
  · refine Good.head (g := fun z len => opS z len most ts i) (opS_good hi (by rcases h2 with q | q <;> rw [q] <;> decide)) (by show lineS z len most ts i = _; unfold lineS; rw [if_neg h1, if_pos h2]) (fun _ z' len' _ hz => ?_) (Nat.le_refl _) (fun j hj hj2 => by omega)
    show lineS z' len' most ts i = _
    unfold lineS
    rw [hz i (Nat.le_refl _), if_neg h1, if_pos h2]
  · refine Good.bad (e := 4) (w := i) (by show lineS z len most ts i = _; unfold lineS; rw [if_neg h1, if_neg h2]) (by omega) (Nat.le_refl _) (by omega) (fun _ => rfl) (fun _ hw z' len' hw' hz => ?_)
    show lineS z' len' most ts i = _
    unfold lineS
    rw [hz i (Nat.le_refl _), if_neg h1, if_neg h2]

/-! ### All lines -/
theorem decL_done {z : Nat → Int} {len : Nat} {most : Int} {f : Nat} {ts : List TxnM} {i : Nat} (h : len ≤ i) : decL z len most f ts i = (ts, 0, 0) := by
  cases f with
  | zero => rfl
  | succ f => rw [decL, if_neg (by omega)]
/-- A line's two ends. -/
theorem line_two {z : Nat → Int} {len : Nat} {most : Int} {ts : List TxnM} {i : Nat} (hi : i < len) :
    ((lineS z len most ts i).e = 0 ∧ i < (lineS z len most ts i).nx ∧ (lineS z len most ts i).nx ≤ len ∧ z ((lineS z len most ts i).nx - 1) = 10 ∧ (∀ j, i ≤ j → j + 1 < (lineS z len most ts i).nx → z j ≠ 10) ∧
      ts.length ≤ (lineS z len most ts i).ts.length ∧ opsN ts ≤ opsN (lineS z len most ts i).ts ∧
      ∀ (z' : Nat → Int) (len' : Nat), (lineS z len most ts i).nx ≤ len' → (∀ j, j < (lineS z len most ts i).nx → z' j = z j) → lineS z' len' most ts i = lineS z len most ts i) ∨
    ((lineS z len most ts i).e ≠ 0 ∧ ∃ w : Nat, (lineS z len most ts i).wh = (w : Int) ∧ i ≤ w ∧ w ≤ len ∧ ((lineS z len most ts i).e = 3 ∨ (lineS z len most ts i).e = 4 ∨ (lineS z len most ts i).e = 5 ∨ (lineS z len most ts i).e = 6) ∧ (w = len → (lineS z len most ts i).e = 4) ∧
      (((lineS z len most ts i).e = 3 ∨ (lineS z len most ts i).e = 4) → w < len → ∀ (z' : Nat → Int) (len' : Nat), w < len' → (∀ j, j ≤ w → z' j = z j) → lineS z' len' most ts i = lineS z len most ts i)) := by
  rcases lineS_good (most := most) (ts := ts) (z := z) hi with ⟨e, h1, h2, h3, h4, h5, h6, h7, hl⟩ | h
  · exact .inl ⟨e, h1, h2, h3, h4, h5, h6, hl⟩
  · exact .inr h
/-- Either all lines are right; or there is an error, not ahead of where it was begun, nor past the end; at the end it is that of a wrong form. -/
theorem decL_two {z : Nat → Int} {len : Nat} {most : Int} : ∀ (f : Nat) (ts : List TxnM) (i : Nat),
    ((decL z len most f ts i).2 = (0, 0) ∧ ts.length ≤ (decL z len most f ts i).1.length ∧ opsN ts ≤ opsN (decL z len most f ts i).1) ∨
    ((decL z len most f ts i).1 = [] ∧ (decL z len most f ts i).2.1 ≠ 0 ∧ ∃ w : Nat, (decL z len most f ts i).2.2 = (w : Int) ∧ i ≤ w ∧ w ≤ len)
  | 0, ts, i => .inl ⟨rfl, Nat.le_refl _, Nat.le_refl _⟩
  | f + 1, ts, i => by
    by_cases hi : i < len
    · rw [decL, if_pos hi]
      rcases line_two (most := most) (ts := ts) (z := z) hi with ⟨e, h1, h2, h3, h4, h5, h6, hl⟩ | ⟨e, w, h1, h2, h3, h4, h5, hl⟩
      · rw [if_pos e]
        rcases decL_two (z := z) (len := len) (most := most) f (lineS z len most ts i).ts (lineS z len most ts i).nx with ⟨g1, g2, g3⟩ | ⟨g1, g2, w, g3, g4, g5⟩
        · exact .inl ⟨g1, by omega, by omega⟩
        · exact .inr ⟨g1, g2, w, g3, by omega, g5⟩
      · rw [if_neg e]
        exact .inr ⟨rfl, e, w, h1, h2, h3⟩
    · rw [decL_done (by omega)]
      exact .inl ⟨rfl, Nat.le_refl _, Nat.le_refl _⟩
/-- What is behind a wrong byte decides nothing. -/
theorem decL_behind {z z' : Nat → Int} {len len' : Nat} {most : Int} : ∀ (f f' : Nat) (ts : List TxnM) (i : Nat) (e : Int) (w : Nat), len - i ≤ f → len' - i ≤ f' → decL z len most f ts i = ([], e, (w : Int)) → (e = 3 ∨ e = 4) → w < len → w < len' → (∀ j, j ≤ w → z' j = z j) →
    decL z' len' most f' ts i = ([], e, (w : Int))
  | 0, f', ts, i, e, w, hf, hf', h, he, hw, hw', hz => by
    simp [decL] at h
    omega
  | f + 1, f', ts, i, e, w, hf, hf', h, he, hw, hw', hz => by
    by_cases hi : i < len
    · have hiw : i ≤ w := by
        rcases decL_two (z := z) (len := len) (most := most) (f + 1) ts i with ⟨g1, _, _⟩ | ⟨_, _, w2, g3, g4, _⟩
        · rw [h] at g1; simp at g1; omega
        · rw [h] at g3; simp at g3; omega
      obtain ⟨g0, hg0⟩ : ∃ g0, f' = g0 + 1 := ⟨f' - 1, by omega⟩
      subst hg0
      rw [decL, if_pos hi] at h
      rcases line_two (most := most) (ts := ts) (z := z) hi with ⟨e0, h1, h2, h3, h4, h5, h6, hl⟩ | ⟨e0, w0, h1, h2, h3, h4, h5, hl⟩
      · rw [if_pos e0] at h
        have hnw : (lineS z len most ts i).nx ≤ w := by
          rcases decL_two (z := z) (len := len) (most := most) f (lineS z len most ts i).ts (lineS z len most ts i).nx with ⟨g1, _, _⟩ | ⟨_, _, w2, g3, g4, _⟩
          · rw [h] at g1; simp at g1; omega
          · rw [h] at g3; simp at g3; omega
        have hs := hl z' len' (by omega) (fun j hj => hz j (by omega))
        rw [decL, if_pos (by omega), hs, if_pos e0]
        exact decL_behind f g0 _ _ e w (by omega) (by omega) h he hw hw' hz
      · rw [if_neg e0] at h
        simp at h
        obtain ⟨q1, q2⟩ := h
        rw [h1] at q2
        have ew : w0 = w := by omega
        subst ew
        have hs := hl (by omega) hw z' len' hw' hz
        rw [decL, if_pos (by omega), hs, if_neg e0, q1, h1]
    · rw [decL_done (by omega)] at h
      simp at h
      omega
/-- Bytes without a violation, cut behind any line, have none. -/
theorem decL_cut {z : Nat → Int} {len n : Nat} {most : Int} (hn : n ≤ len) (hend : n = 0 ∨ z (n - 1) = 10) : ∀ (f f' : Nat) (ts : List TxnM) (i : Nat) (us : List TxnM), i ≤ n → len - i ≤ f → n - i ≤ f' → decL z len most f ts i = (us, 0, 0) →
    ∃ vs, decL z n most f' ts i = (vs, 0, 0) ∧ vs.length ≤ us.length ∧ opsN vs ≤ opsN us
  | 0, f', ts, i, us, hi, hf, hf', h => by
    simp [decL] at h
    subst h
    exact ⟨ts, decL_done (by omega), Nat.le_refl _, Nat.le_refl _⟩
  | f + 1, f', ts, i, us, hi, hf, hf', h => by
    by_cases hin : i < n
    · obtain ⟨g0, hg0⟩ : ∃ g0, f' = g0 + 1 := ⟨f' - 1, by omega⟩
      subst hg0
      rw [decL, if_pos (by omega)] at h
      rcases line_two (most := most) (ts := ts) (z := z) (show i < len by omega) with ⟨e0, h1, h2, h3, h4, h5, h6, hl⟩ | ⟨e0, w0, h1, h2, h3, h4, h5, hl⟩
      · rw [if_pos e0] at h
        have hnx : (lineS z len most ts i).nx ≤ n := by
          rcases Nat.lt_or_ge n (lineS z len most ts i).nx with q | q
          · rcases hend with r | r
            · omega
            · exact absurd r (h4 (n - 1) (by omega) (by omega))
          · exact q
        have hs := hl z n hnx (fun j hj => rfl)
        rw [decL, if_pos hin, hs, if_pos e0]
        exact decL_cut hn hend f g0 _ _ us hnx (by omega) (by omega) h
      · rw [if_neg e0] at h
        simp at h
        exact absurd h.2.1 e0
    · have e : n = i := by omega
      subst e
      refine ⟨ts, decL_done (Nat.le_refl _), ?_⟩
      rcases decL_two (z := z) (len := len) (most := most) (f + 1) ts n with ⟨_, g2, g3⟩ | ⟨_, g2, _⟩
      · rw [h] at g2 g3; exact ⟨g2, g3⟩
      · rw [h] at g2; exact absurd rfl g2
end Go.Proofs.Ytigmgkcojifbcaa.Hist

/- Histories in memory, element by element; a history that a call builds in rows of its own. -/
namespace Go.Proofs.Ytigmgkcojifbcaa.Mem
open Go.RowKit Go.Proofs.Ytigmgkcojifbcaa.Dig Go.Proofs.Ytigmgkcojifbcaa.Hist
set_option linter.unusedVariables false
set_option linter.unusedSimpArgs false

deriving instance DecidableEq for OpM
deriving instance DecidableEq for TxnM

theorem AllAt.len {α : Type} {R : List Value → α → Prop} {cs : List (List Value)} {xs : List α} (h : AllAt R cs xs) : cs.length = xs.length := h.1
section
variable {F F' S : Nat → Prop} {w w' : World}
theorem IntsAt.shape {v : Value} {l : List Int} (h : IntsAt F w v l) : ∃ a cap, v = .slice a l.length cap ∧ l.length ≤ cap ∧ cap ≤ maxLen := by
  obtain ⟨a, cap, h1, h2, h3⟩ := h.1.shape
  rw [List.length_map] at h1 h2
  exact ⟨a, cap, h1, h2, h3⟩
theorem OpsAt.shape {v : Value} {os : List OpM} (h : OpsAt F w v os) : ∃ a cap, v = .slice a os.length cap ∧ os.length ≤ cap ∧ cap ≤ maxLen := by
  obtain ⟨cs, hr, ha⟩ := h
  obtain ⟨a, cap, h1, h2, h3⟩ := hr.shape
  rw [ha.1] at h1 h2
  exact ⟨a, cap, h1, h2, h3⟩
theorem TxnsAt.shape {v : Value} {ts : List TxnM} (h : TxnsAt F w v ts) : ∃ a cap, v = .slice a ts.length cap ∧ ts.length ≤ cap ∧ cap ≤ maxLen := by
  obtain ⟨cs, hr, ha⟩ := h
  obtain ⟨a, cap, h1, h2, h3⟩ := hr.shape
  rw [ha.1] at h1 h2
  exact ⟨a, cap, h1, h2, h3⟩
/-- Operation i, cell by cell. -/
theorem OpsAt.at {a : Option Addr} {len cap : Nat} {os : List OpM} (h : OpsAt F w (.slice a len cap) os) {i : Nat} (hi : i < os.length) :
    ∃ b off la lcap, a = some ⟨b, off, none⟩ ∧ F b ∧ b < w.heap.size ∧ w.cell? ⟨b, off + i * 4, none⟩ = some (.bool os[i].read) ∧ w.cell? ⟨b, off + i * 4 + 1, none⟩ = some (.int .i64 os[i].key) ∧
      w.cell? ⟨b, off + i * 4 + 2, none⟩ = some (.int .i64 os[i].value) ∧ w.cell? ⟨b, off + i * 4 + 3, none⟩ = some (.slice la os[i].list.length lcap) ∧ IntsAt F w (.slice la os[i].list.length lcap) os[i].list ∧
      (Lit.int .i64 os[i].key).wf = true ∧ (Lit.int .i64 os[i].value).wf = true := by
  obtain ⟨cs, hr, ha⟩ := h
  obtain ⟨hc, v, e, hl, hw1, hw2⟩ := ha.get hi
  obtain ⟨_, b, off, ea, hF, hcell⟩ := hr.at hc
  obtain ⟨la, lcap, rfl, _, _⟩ := hl.shape
  rw [e] at hcell
  have c0 := hcell 0 _ rfl
  exact ⟨b, off, la, lcap, ea, hF, lt_of_cell c0, c0, hcell 1 _ rfl, hcell 2 _ rfl, hcell 3 _ rfl, hl, hw1, hw2⟩
/-- Transaction i, cell by cell. -/
theorem TxnsAt.at {a : Option Addr} {len cap : Nat} {ts : List TxnM} (h : TxnsAt F w (.slice a len cap) ts) {i : Nat} (hi : i < ts.length) :
    ∃ b off oa ocap, a = some ⟨b, off, none⟩ ∧ F b ∧ b < w.heap.size ∧ w.cell? ⟨b, off + i * 3, none⟩ = some (.int .i64 ts[i].id) ∧ w.cell? ⟨b, off + i * 3 + 1, none⟩ = some (.bool ts[i].ab) ∧
      w.cell? ⟨b, off + i * 3 + 2, none⟩ = some (.slice oa ts[i].ops.length ocap) ∧ OpsAt F w (.slice oa ts[i].ops.length ocap) ts[i].ops ∧ (Lit.int .i64 ts[i].id).wf = true := by
  obtain ⟨cs, hr, ha⟩ := h
  obtain ⟨hc, v, e, hl, hw1⟩ := ha.get hi
  obtain ⟨_, b, off, ea, hF, hcell⟩ := hr.at hc
  obtain ⟨oa, ocap, rfl, _, _⟩ := hl.shape
  rw [e] at hcell
  have c0 := hcell 0 _ rfl
  exact ⟨b, off, oa, ocap, ea, hF, lt_of_cell c0, c0, hcell 1 _ rfl, hcell 2 _ rfl, hl, hw1⟩
end

/-! ### Sums -/
theorem opsN_take {ts : List TxnM} {k : Nat} (h : k < ts.length) : opsN (ts.take (k + 1)) = opsN (ts.take k) + ts[k].ops.length := by
  rw [List.take_succ_eq_append_getElem h, opsN_app]; simp [opsN]
theorem opsN_take_le (ts : List TxnM) (k : Nat) : opsN (ts.take k) ≤ opsN ts := by
  have := opsN_app (ts.take k) (ts.drop k)
  rw [List.take_append_drop] at this
  omega
theorem ops_le {ts : List TxnM} {k : Nat} (h : k < ts.length) : ts[k].ops.length ≤ opsN ts := by
  have h1 := opsN_take h
  have h2 := opsN_take_le ts (k + 1)
  omega

/-! ### A history in rows of a call's own -/
/-- The row of the last transaction's operations, ov; all else lies in other blocks of G than tv's and ov's. -/
def LastOwn (G : Nat → Prop) (B : Nat) (w : World) (tv ov : Value) (pre : List TxnM) (last : TxnM) (cs ocs : List (List Value)) : Prop :=
  (Lit.int .i64 last.id).wf = true ∧ AllAt (TxnAt (fun b => G b ∧ tv.ownBlock ≠ some b ∧ ov.ownBlock ≠ some b) w) cs pre ∧ OwnC 45 4 B w ov ocs ∧
  AllAt (OpAt (fun b => G b ∧ tv.ownBlock ≠ some b ∧ ov.ownBlock ≠ some b) w) ocs last.ops ∧ (∀ b, ov.ownBlock = some b → G b ∧ tv.ownBlock ≠ some b)
/-- Two rows of the call's own: that of the transactions, and that of the last one's operations; those of the other ones lie in other blocks of G. -/
def HistOwn (G : Nat → Prop) (B : Nat) (w : World) (tv : Value) (ts : List TxnM) (cs : List (List Value)) : Prop :=
  (∀ b, tv.ownBlock = some b → G b) ∧ OwnC 48 3 B w tv cs ∧
  ((ts = [] ∧ cs = []) ∨ ∃ pre last cs0 ov ocs, ts = pre ++ [last] ∧ cs = cs0 ++ [[.int .i64 last.id, .bool last.ab, ov]] ∧ LastOwn G B w tv ov pre last cs0 ocs)

theorem LastOwn.keep {G S : Nat → Prop} {B : Nat} {w w' : World} {tv ov : Value} {pre : List TxnM} {last : TxnM} {cs ocs : List (List Value)} (h : LastOwn G B w tv ov pre last cs ocs) (ho : Only S w w') (hs : ∀ b, (G b ∧ tv.ownBlock ≠ some b) → ¬ S b) : LastOwn G B w' tv ov pre last cs ocs := by
  obtain ⟨h3, h4, h5, h6, h7⟩ := h
  exact ⟨h3, h4.mono (fun _ _ q => q.only ho (fun b hb => hs b ⟨hb.1, hb.2.1⟩)), h5.keep ho (fun b hb => hs b (h7 b hb)), h6.mono (fun _ _ q => q.only ho (fun b hb => hs b ⟨hb.1, hb.2.1⟩)), h7⟩
theorem HistOwn.keep {G S : Nat → Prop} {B : Nat} {w w' : World} {tv : Value} {ts : List TxnM} {cs : List (List Value)} (h : HistOwn G B w tv ts cs) (ho : Only S w w') (hs : ∀ b, G b → ¬ S b) : HistOwn G B w' tv ts cs := by
  obtain ⟨hg, hown, h⟩ := h
  refine ⟨hg, hown.keep ho (fun b hb => hs b (hg b hb)), ?_⟩
  rcases h with h | ⟨pre, last, cs0, ov, ocs, h1, h2, hl⟩
  · exact .inl h
  · exact .inr ⟨pre, last, cs0, ov, ocs, h1, h2, hl.keep ho (fun b hb => hs b hb.1)⟩
theorem HistOwn.nil (G : Nat → Prop) (B : Nat) (w : World) : HistOwn G B w (.slice none 0 0) [] [] := ⟨by simp [Value.ownBlock], OwnC.nil _ _ _ _, .inl ⟨rfl, rfl⟩⟩
/-- How it is read. -/
theorem HistOwn.txns {G : Nat → Prop} {B : Nat} {w : World} {tv : Value} {ts : List TxnM} {cs : List (List Value)} (h : HistOwn G B w tv ts cs) : TxnsAt G w tv ts := by
  obtain ⟨hg, hown, h⟩ := h
  refine ⟨cs, hown.row.mono (fun b q => hg b q.2), ?_⟩
  rcases h with ⟨rfl, rfl⟩ | ⟨pre, last, cs0, ov, ocs, rfl, rfl, h3, h4, h5, h6, h7⟩
  · exact AllAt.nil _
  · exact (h4.mono fun _ _ q => q.mono fun b hb => hb.1).append (AllAt.one ⟨ov, rfl, ⟨ocs, h5.row.mono (fun b q => (h7 b q.2).1), h6.mono fun _ _ q => q.mono fun b hb => hb.1⟩, h3⟩)
theorem HistOwn.len {G : Nat → Prop} {B : Nat} {w : World} {tv : Value} {ts : List TxnM} {cs : List (List Value)} (h : HistOwn G B w tv ts cs) : cs.length = ts.length := by
  obtain ⟨_, _, h⟩ := h
  rcases h with ⟨rfl, rfl⟩ | ⟨pre, last, cs0, ov, ocs, rfl, rfl, h3, h4, _⟩
  · rfl
  · simp [h4.1]
theorem HistOwn.shape {G : Nat → Prop} {B : Nat} {w : World} {tv : Value} {ts : List TxnM} {cs : List (List Value)} (h : HistOwn G B w tv ts cs) : ∃ a cap, tv = .slice a ts.length cap ∧ ts.length ≤ cap ∧ cap ≤ maxLen := h.txns.shape

/-- A new transaction, behind the others. -/
theorem HistOwn.push {G : Nat → Prop} {B : Nat} {w w' : World} {tv tv' : Value} {ts : List TxnM} {cs : List (List Value)} {id : Int} {ab : Bool} (h : HistOwn G B w tv ts cs)
    (hown : OwnC 48 3 B w' tv' (cs ++ [[.int .i64 id, .bool ab, .slice none 0 0]])) (ho : Only (fun k => tv.ownBlock = some k) w w')
    (hb : ∀ b, tv'.ownBlock = some b → tv.ownBlock = some b ∨ (w.heap.size ≤ b ∧ G b)) (hw : (Lit.int .i64 id).wf = true) : HistOwn G B w' tv' (ts ++ [⟨id, ab, []⟩]) (cs ++ [[.int .i64 id, .bool ab, .slice none 0 0]]) := by
  obtain ⟨hg, _, h⟩ := h
  refine ⟨fun b q => (hb b q).elim (hg b) (fun r => r.2), hown, .inr ⟨ts, ⟨id, ab, []⟩, cs, .slice none 0 0, [], rfl, rfl, hw, ?_, OwnC.nil _ _ _ _, AllAt.nil _, by simp [Value.ownBlock]⟩⟩
  rcases h with ⟨rfl, rfl⟩ | ⟨pre, last, cs0, ov, ocs, rfl, rfl, h3, h4, h5, h6, h7⟩
  · exact AllAt.nil _
  · have hF : ∀ b, ((G b ∧ tv.ownBlock ≠ some b ∧ ov.ownBlock ≠ some b) ∧ b < w.heap.size) → (G b ∧ tv'.ownBlock ≠ some b ∧ (Value.slice none 0 0).ownBlock ≠ some b) := by
      rintro b ⟨⟨q1, q2, q3⟩, q4⟩
      refine ⟨q1, fun q => ?_, by simp [Value.ownBlock]⟩
      rcases hb b q with r | r
      · exact q2 r
      · omega
    have hF2 : ∀ b, (B ≤ b ∧ ov.ownBlock = some b) → (G b ∧ tv'.ownBlock ≠ some b ∧ (Value.slice none 0 0).ownBlock ≠ some b) := by
      rintro b ⟨q1, q2⟩
      refine ⟨(h7 b q2).1, fun q => ?_, by simp [Value.ownBlock]⟩
      rcases hb b q with r | r
      · exact (h7 b q2).2 r
      · have := (h5.lt b q2).2; omega
    refine AllAt.append (h4.mono fun c x q => (q.lt.only ho (fun b hb => hb.1.2.1)).mono hF) (AllAt.one ⟨ov, rfl, ⟨ocs, (h5.row.only ho (fun b hb q => (h7 b hb.2).2 q)).mono hF2, ?_⟩, h3⟩)
    exact h6.mono fun c x q => (q.lt.only ho (fun b hb => hb.1.2.1)).mono hF
/-- The cells of the last one. -/
theorem OwnC.cell {e : TypeId} {n base : Nat} {w : World} {g len cap : Nat} {cs : List (List Value)} (h : OwnC e n base w (.slice (some ⟨g, 0, none⟩) len cap) cs) {i : Nat} (hi : i < cs.length) {j : Nat} {u : Value} (hu : cs[i][j]? = some u) : w.cell? ⟨g, i * n + j, none⟩ = some u := by
  obtain ⟨_, b, off, e1, _, hc⟩ := h.row.at hi
  have hr := h.1.2
  rcases hr with ⟨e, _⟩ | ⟨g', cap', cur, e, _⟩
  · simp at e
  · simp at e1
    obtain ⟨rfl, rfl⟩ := e1
    have := hc j u hu
    rwa [Nat.zero_add] at this
/-- A cell of the last one is written. -/
theorem flatten_set {α : Type} (n : Nat) : ∀ (cs : List (List α)) (_ : ∀ c ∈ cs, c.length = n) (i j : Nat) (_ : i < cs.length) (_ : j < n) (u : α), cs.flatten.set (i * n + j) u = (cs.set i ((cs[i]?.getD []).set j u)).flatten
  | [], _, i, j, hi, _, u => by simp at hi
  | d :: cs, hl, 0, j, _, hj, u => by
    have := hl d List.mem_cons_self
    simp [List.set_append, this, hj]
  | d :: cs, hl, i + 1, j, hi, hj, u => by
    have hd := hl d List.mem_cons_self
    rw [List.flatten_cons, Nat.succ_mul, List.set_append, if_neg (by omega), show i * n + n + j - d.length = i * n + j by omega, flatten_set n cs (fun c hc => hl c (List.mem_cons_of_mem _ hc)) i j (by simpa using hi) hj u]
    simp
theorem OwnC.set {e : TypeId} {n base : Nat} {w : World} {g len cap : Nat} {cs : List (List Value)} (h : OwnC e n base w (.slice (some ⟨g, 0, none⟩) len cap) cs) {i : Nat} (hi : i < cs.length) {j : Nat} (hj : j < n) (u : Value) :
    OwnC e n base (w.setCell ⟨g, i * n + j, none⟩ u) (.slice (some ⟨g, 0, none⟩) len cap) (cs.set i (cs[i].set j u)) := by
  have hlen : len = cs.length := by
    rcases h.1.2 with ⟨e, _⟩ | ⟨g', cap', cur, e, _⟩
    · simp at e
    · simp at e; exact e.2.1
  subst hlen
  refine ⟨?_, ?_⟩
  · have := (h.1.stored (i * n + j) u).1
    rw [flatten_set n cs h.2 i j hi hj u, List.getElem?_eq_getElem hi] at this
    simpa using this
  · intro c hc
    rcases List.mem_or_eq_of_mem_set hc with q | q
    · exact h.2 c q
    · rw [q, List.length_set]; exact h.2 _ (List.getElem_mem hi)
/-- An operation, behind those of the last transaction: an append to its row, and the new row laid into its cell. -/
theorem HistOwn.add {G : Nat → Prop} {B : Nat} {w w1 w2 : World} {tv ov ov' : Value} {pre : List TxnM} {last : TxnM} {cs0 ocs : List (List Value)} {o : OpM} {c : List Value}
    (hg : ∀ b, tv.ownBlock = some b → G b) (hl : LastOwn G B w tv ov pre last cs0 ocs)
    (hc : OpAt (fun b => G b ∧ tv.ownBlock ≠ some b ∧ ov.ownBlock ≠ some b ∧ b < w.heap.size) w c o)
    (hown1 : OwnC 45 4 B w1 ov' (ocs ++ [c])) (ho1 : Only (fun k => ov.ownBlock = some k) w w1) (hb : ∀ b, ov'.ownBlock = some b → ov.ownBlock = some b ∨ (w.heap.size ≤ b ∧ G b))
    (htv : ∀ b, tv.ownBlock = some b → b < w.heap.size)
    (hown2 : OwnC 48 3 B w2 tv (cs0 ++ [[.int .i64 last.id, .bool last.ab, ov']])) (ho2 : Only (fun k => tv.ownBlock = some k) w1 w2) :
    HistOwn G B w2 tv (pre ++ [⟨last.id, last.ab, last.ops ++ [o]⟩]) (cs0 ++ [[.int .i64 last.id, .bool last.ab, ov']]) := by
  obtain ⟨h3, h4, h5, h6, h7⟩ := hl
  have hF : ∀ b, ((G b ∧ tv.ownBlock ≠ some b ∧ ov.ownBlock ≠ some b) ∧ b < w.heap.size) → (G b ∧ tv.ownBlock ≠ some b ∧ ov'.ownBlock ≠ some b) := by
    rintro b ⟨⟨q1, q2, q3⟩, q4⟩
    refine ⟨q1, q2, fun q => ?_⟩
    rcases hb b q with r | r
    · exact q3 r
    · omega
  have h7' : ∀ b, ov'.ownBlock = some b → G b ∧ tv.ownBlock ≠ some b := by
    intro b q
    rcases hb b q with r | r
    · exact h7 b r
    · exact ⟨r.2, fun q2 => by have := htv b q2; omega⟩
  refine ⟨hg, hown2, .inr ⟨pre, ⟨last.id, last.ab, last.ops ++ [o]⟩, cs0, ov', ocs ++ [c], rfl, rfl, h3, ?_, hown1.keep ho2 (fun b q => (h7' b q).2), ?_, h7'⟩⟩
  · exact h4.mono fun _ _ q => (((q.lt.only ho1 (fun b hb => hb.1.2.2)).only ho2 (fun b hb => hb.1.2.1)).mono hF)
  · refine AllAt.append (h6.mono fun _ _ q => (((q.lt.only ho1 (fun b hb => hb.1.2.2)).only ho2 (fun b hb => hb.1.2.1)).mono hF)) (AllAt.one ?_)
    exact ((hc.only ho1 (fun b hb => hb.2.2.1)).only ho2 (fun b hb => hb.2.1)).mono fun b hb => hF b ⟨⟨hb.1, hb.2.1, hb.2.2.1⟩, hb.2.2.2⟩
theorem addOp_snoc (pre : List TxnM) (last : TxnM) (o : OpM) : addOp (pre ++ [last]) o = pre ++ [⟨last.id, last.ab, last.ops ++ [o]⟩] := by simp [addOp]
end Go.Proofs.Ytigmgkcojifbcaa.Mem

/- Contracts of the two Ops, twin, is: each only reads. -/
namespace Go.Proofs.Ytigmgkcojifbcaa.Hist
open Go.RowKit Go.Proofs.Ytigmgkcojifbcaa.Dig Go.Proofs.Ytigmgkcojifbcaa.Mem
set_option linter.unusedVariables false
set_option linter.unusedSimpArgs false

theorem _root_.Go.RowKit.Below.drewN {B : Nat} {a w : World} (h : Below B a w) (n : Nat) : Below B a (w.drewN n) := ⟨h.os, h.tape, h.output, h.size, h.block⟩
theorem ops_any (F : Nat → Prop) (v : Value) (ts : List TxnM) (w : World) (h : TxnsAt F w v ts) (ht : ts.length ≤ 1000000) (hn : opsN ts ≤ 1000000) :
    Calls Try.prog 23 #[.agg #[v]] w fun e w' => e = .returned (.int .i64 (opsN ts : Int)) ∧ Below w.heap.size w w' := by
  obtain ⟨a, cap, rfl, hc1, hc2⟩ := h.shape
  have H : Hid (TxnsAt F w (.slice a ts.length cap) ts) := h
  clear h
  go_enter Try.func23, Try.ntmps23
  go_wp2
  go_loopw [3, 9] (fun n i wr => ∃ k : Nat, k ≤ ts.length ∧ i = .int .i64 (k : Int) ∧ n = .int .i64 (opsN (ts.take k) : Int) ∧ Below w.heap.size w wr) (fun _ i _ => ts.length - (intOf i).toNat)
  case atStart => exact ⟨0, by omega, rfl, rfl, (Below.refl _ _).alloc (Nat.le_refl _) _⟩
  case round =>
    obtain ⟨k, hk, rfl, rfl, hbel⟩ := hrel
    by_cases hlt : k < ts.length
    · obtain ⟨b, off, oa, ocap, rfl, _, hb, c0, c1, c2, _, _⟩ := (H.out.keep hbel).at hlt
      have s1 := opsN_take hlt
      have s2 := opsN_take_le ts k
      have s3 := ops_le hlt
      have S : Hid (opsN (ts.take (k + 1)) = opsN (ts.take k) + ts[k].ops.length) := s1
      have hs := hbel.size
      clear s1
      go_wp2
      go_roundw
      case rel => exact ⟨k + 1, by omega, by go_num, by rw [S.out]; go_num, hbel.alloc hs _⟩
      case measure => simp [intOf]; omega
    · have e : k = ts.length := by omega
      subst e
      go_wp2
      go_ret
      exact ⟨by rw [List.take_length]; rfl, hbel⟩
theorem rops_any (F : Nat → Prop) (v : Value) (ts : List TxnM) (w : World) (h : TxnsAt F w v ts) (ht : ts.length ≤ 1000000) (hn : opsN ts ≤ 1000000) :
    Calls Try.prog 25 #[.agg #[v]] w fun e w' => e = .returned (.int .i64 (opsN ts : Int)) ∧ Below w.heap.size w w' := by
  obtain ⟨a, cap, rfl, hc1, hc2⟩ := h.shape
  have H : Hid (TxnsAt F w (.slice a ts.length cap) ts) := h
  clear h
  go_enter Try.func25, Try.ntmps25
  go_wp2
  go_loop [3, 4] (fun n i => ∃ k : Nat, k ≤ ts.length ∧ i = .int .i64 (k : Int) ∧ n = .int .i64 (opsN (ts.take k) : Int)) (fun _ i => ts.length - (intOf i).toNat)
  case atStart => exact ⟨0, by omega, rfl, rfl⟩
  case round =>
    obtain ⟨k, hk, rfl, rfl⟩ := hrel
    by_cases hlt : k < ts.length
    · obtain ⟨b, off, oa, ocap, rfl, _, hb, c0, c1, c2, _, _⟩ := H.out.at hlt
      have s1 := opsN_take hlt
      have s2 := opsN_take_le ts k
      have s3 := ops_le hlt
      have S : Hid (opsN (ts.take (k + 1)) = opsN (ts.take k) + ts[k].ops.length) := s1
      clear s1
      go_wp2
      go_round
      case rel => exact ⟨k + 1, by omega, by go_num, by rw [S.out]; go_num⟩
      case measure => simp [intOf]; omega
    · have e : k = ts.length := by omega
      subst e
      go_wp2
      go_ret
      exact ⟨rfl, (Below.refl _ _).alloc (Nat.le_refl _) _⟩
theorem any_take {α : Type} {p : α → Bool} {l : List α} {k : Nat} (h : k < l.length) : (l.take (k + 1)).any p = ((l.take k).any p || p l[k]) := by
  rw [List.take_succ_eq_append_getElem h, List.any_append]; simp
theorem any_at {α : Type} {p : α → Bool} {l : List α} {k : Nat} (h : k < l.length) (hp : p l[k] = true) : l.any p = true := List.any_eq_true.2 ⟨_, List.getElem_mem h, hp⟩
theorem rtwin_any (F : Nat → Prop) (v : Value) (ts : List TxnM) (id : Int) (w : World) (h : TxnsAt F w v ts) (ht : ts.length ≤ 1000000) :
    Calls Try.prog 49 #[.agg #[v], .int .i64 id] w fun e w' => e = .returned (.bool (twinB ts id)) ∧ Below w.heap.size w w' := by
  obtain ⟨a, cap, rfl, hc1, hc2⟩ := h.shape
  have H : Hid (TxnsAt F w (.slice a ts.length cap) ts) := h
  clear h
  go_enter Try.func49, Try.ntmps49
  go_wp2
  go_loop [5] (fun i => ∃ k : Nat, k ≤ ts.length ∧ i = .int .i64 (k : Int) ∧ Hid (twinB (ts.take k) id = false)) (fun i => ts.length - (intOf i).toNat)
  case atStart => exact ⟨0, by omega, rfl, rfl⟩
  case round =>
    obtain ⟨k, hk, rfl, hno⟩ := hrel
    by_cases hlt : k < ts.length
    · obtain ⟨b, off, oa, ocap, rfl, _, hb, c0, c1, c2, _, _⟩ := H.out.at hlt
      by_cases he : (ts[k].id == id) = true
      · have T : Hid (twinB ts id = true) := any_at (p := fun t : TxnM => t.id == id) hlt he
        go_wp2
        go_ret
        exact ⟨by rw [T.out]; rfl, (Below.refl _ _).alloc (Nat.le_refl _) _⟩
      · have he' : (ts[k].id == id) = false := by simpa using he
        have T : Hid (twinB (ts.take (k + 1)) id = false) := by
          show (ts.take (k + 1)).any _ = false
          rw [any_take hlt, he', Bool.or_false]; exact hno.out
        clear he
        go_wp2
        go_round
        case rel => exact ⟨k + 1, by omega, by go_num, T⟩
        case measure => simp [intOf]; omega
    · have e : k = ts.length := by omega
      subst e
      go_wp2
      go_ret
      exact ⟨by have q := hno.out; rw [List.take_length] at q; rw [q]; rfl, (Below.refl _ _).alloc (Nat.le_refl _) _⟩
theorem ris_any (a : Option Addr) (len cap : Nat) (z : Nat → Int) (i : Nat) (x : Int) (w : World) (h : Rd .u8 w a len z) (hi : i ≤ 2000000) :
    Calls Try.prog 47 #[.slice a len cap, .int .i64 (i : Int), .int .u8 x] w fun e w' => e = .returned (.bool (isB z len i x)) ∧ w' = w := by
  have hlen := h.le
  by_cases hlt : i < len
  · have hlt' : (i : Int) < (len : Int) := by omega
    obtain ⟨b, off, rfl, hc, _, _⟩ := h.u8 hlt
    have hd : decide ((i : Int) < (len : Int)) = true := by simpa using hlt
    by_cases he : (z i == x) = true
    · have T : Hid (isB z len i x = true) := isB_iff.2 ⟨hlt, by simpa using he⟩
      clear h
      go_enter Try.func47, Try.ntmps47
      go_wp2
      go_ret
      exact ⟨by rw [T.out]; rfl, rfl⟩
    · have he' : (z i == x) = false := by simpa using he
      have T : Hid (isB z len i x = false) := isB_no.2 (by intro q; simp [q.2] at he')
      clear h he
      go_enter Try.func47, Try.ntmps47
      go_wp2
      go_ret
      exact ⟨by rw [T.out]; rfl, rfl⟩
  · have hlt' : ¬ (i : Int) < (len : Int) := by omega
    have hd : decide ((i : Int) < (len : Int)) = false := by simpa using hlt
    have T : Hid (isB z len i x = false) := isB_no.2 (by intro q; exact hlt q.1)
    clear h
    go_enter Try.func47, Try.ntmps47
    go_wp2
    go_ret
    exact ⟨by rw [T.out]; rfl, rfl⟩
end Go.Proofs.Ytigmgkcojifbcaa.Hist
