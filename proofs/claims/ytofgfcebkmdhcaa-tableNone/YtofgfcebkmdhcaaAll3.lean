/- Joined out of the texts HistPlain, EncPlain, in that order. -/
import Derived.Test.YtofgfcebkmdhcaaAll2
/- The document's history of bytes, as a plain function, line by line. -/
namespace Go.Proofs.Ytofgfcebkmdhcaa.Hist
open Go.RowKit Go.Proofs.Ytofgfcebkmdhcaa.Dig Go.Proofs.Ytofgfcebkmdhcaa.Mem
set_option linter.unusedVariables false
set_option linter.unusedSimpArgs false

/-- What a line leaves: the history, where the next line begins, an error and its place. -/
structure LineR where
  ts : List TxnM
  nx : Nat
  e : Int
  wh : Int
def isB (z : Nat → Int) (len i : Nat) (x : Int) : Bool := decide (i < len ∧ z i = x)
def opsN (ts : List TxnM) : Nat := (ts.map fun t => t.ops.length).sum
def twinB (ts : List TxnM) (id : Int) : Bool := ts.any fun t => t.id == id
def appB (ts : List TxnM) (k v : Int) : Bool := ts.any fun t => t.ops.any fun o => !o.read && o.key == k && o.value == v
def addOp (ts : List TxnM) (o : OpM) : List TxnM := match ts.getLast? with
  | none => ts
  | some t => ts.dropLast ++ [⟨t.id, t.ab, t.ops ++ [o]⟩]
/-- A transaction's line behind its number. -/
def txnT (z : Nat → Int) (len : Nat) (ts : List TxnM) (n : Int) (tz : Nat) : LineR :=
  if isB z len tz 32 = false then ⟨ts, 0, 4, tz⟩ else
  if isB z len (tz + 1) 97 = false ∧ isB z len (tz + 1) 99 = false then ⟨ts, 0, 4, ((tz + 1 : Nat) : Int)⟩ else
  if isB z len (tz + 2) 10 = false then ⟨ts, 0, 4, ((tz + 2 : Nat) : Int)⟩ else ⟨ts ++ [⟨n, z (tz + 1) == 97, []⟩], tz + 3, 0, 0⟩
def txnS (z : Nat → Int) (len : Nat) (ts : List TxnM) (i : Nat) : LineR :=
  if 1024 ≤ ts.length then ⟨ts, 0, 3, i⟩ else
  if isB z len (i + 1) 32 = false then ⟨ts, 0, 4, ((i + 1 : Nat) : Int)⟩ else
  if (parse z len ((i + 2 : Nat) : Int)).2.2 = false then ⟨ts, 0, 4, (parse z len ((i + 2 : Nat) : Int)).2.1⟩ else
  if twinB ts (parse z len ((i + 2 : Nat) : Int)).1 = true then ⟨ts, 0, 5, ((i + 2 : Nat) : Int)⟩ else
  txnT z len ts (parse z len ((i + 2 : Nat) : Int)).1 (parse z len ((i + 2 : Nat) : Int)).2.1.toNat
/-- A line's end, behind an operation. -/
def endL (z : Nat → Int) (len : Nat) (ts : List TxnM) (o : OpM) (tz : Nat) : LineR :=
  if isB z len tz 10 = false then ⟨ts, 0, 4, tz⟩ else ⟨addOp ts o, tz + 1, 0, 0⟩
/-- A read's line behind its key. -/
def readT (z : Nat → Int) (len : Nat) (ts : List TxnM) (k : Int) (tz : Nat) : LineR :=
  if (lst z len (tz : Int)).2.2 = false then ⟨ts, 0, 4, (lst z len (tz : Int)).2.1⟩ else
  endL z len ts ⟨true, k, 0, (lst z len (tz : Int)).1⟩ (lst z len (tz : Int)).2.1.toNat
/-- An append's line behind its key. -/
def appT (z : Nat → Int) (len : Nat) (ts : List TxnM) (k : Int) (tz : Nat) : LineR :=
  if isB z len tz 32 = false then ⟨ts, 0, 4, tz⟩ else
  if (parse z len ((tz + 1 : Nat) : Int)).2.2 = false then ⟨ts, 0, 4, (parse z len ((tz + 1 : Nat) : Int)).2.1⟩ else
  if appB ts k (parse z len ((tz + 1 : Nat) : Int)).1 = true then ⟨ts, 0, 6, ((tz + 1 : Nat) : Int)⟩ else
  endL z len ts ⟨false, k, (parse z len ((tz + 1 : Nat) : Int)).1, []⟩ (parse z len ((tz + 1 : Nat) : Int)).2.1.toNat
def opS (z : Nat → Int) (len : Nat) (most : Int) (ts : List TxnM) (i : Nat) : LineR :=
  if ts.length = 0 then ⟨ts, 0, 4, i⟩ else
  if most ≤ (opsN ts : Int) then ⟨ts, 0, 3, i⟩ else
  if isB z len (i + 1) 32 = false then ⟨ts, 0, 4, ((i + 1 : Nat) : Int)⟩ else
  if (parse z len ((i + 2 : Nat) : Int)).2.2 = false then ⟨ts, 0, 4, (parse z len ((i + 2 : Nat) : Int)).2.1⟩ else
  if z i = 114 then readT z len ts (parse z len ((i + 2 : Nat) : Int)).1 (parse z len ((i + 2 : Nat) : Int)).2.1.toNat
  else appT z len ts (parse z len ((i + 2 : Nat) : Int)).1 (parse z len ((i + 2 : Nat) : Int)).2.1.toNat
def lineS (z : Nat → Int) (len : Nat) (most : Int) (ts : List TxnM) (i : Nat) : LineR :=
  if z i = 116 then txnS z len ts i else if z i = 97 ∨ z i = 114 then opS z len most ts i else ⟨ts, 0, 4, i⟩
def decL (z : Nat → Int) (len : Nat) (most : Int) : Nat → List TxnM → Nat → List TxnM × Int × Int
  | 0, ts, _ => (ts, 0, 0)
  | f + 1, ts, i => if i < len then (if (lineS z len most ts i).e = 0 then decL z len most f (lineS z len most ts i).ts (lineS z len most ts i).nx else ([], (lineS z len most ts i).e, (lineS z len most ts i).wh)) else (ts, 0, 0)
def decS (z : Nat → Int) (len : Nat) (most : Int) : List TxnM × Int × Int :=
  if most < 0 ∨ 4096 < most then ([], 2, 0) else if 262144 < len then ([], 3, 262144) else decL z len most len [] 0

/-! ### What a line looks at -/
theorem isB_iff {z : Nat → Int} {len i : Nat} {x : Int} : isB z len i x = true ↔ i < len ∧ z i = x := by unfold isB; exact decide_eq_true_iff
theorem isB_no {z : Nat → Int} {len i : Nat} {x : Int} : isB z len i x = false ↔ ¬ (i < len ∧ z i = x) := by unfold isB; exact decide_eq_false_iff_not
theorem isB_same {z z' : Nat → Int} {len len' i : Nat} {x : Int} (h : i < len) (h' : i < len') (e : z' i = z i) : isB z' len' i x = isB z len i x := by
  unfold isB; rw [e]; simp [h, h']

/-- A line, from i on: it ends well, behind a byte 10, the only one; or with an error, at a place that is not ahead of it. Either way it looks no further. -/
def Good (f : (Nat → Int) → Nat → LineR) (z : Nat → Int) (len : Nat) (ts : List TxnM) (i : Nat) : Prop :=
  ((f z len).e = 0 ∧ i < (f z len).nx ∧ (f z len).nx ≤ len ∧ z ((f z len).nx - 1) = 10 ∧ (∀ j, i ≤ j → j + 1 < (f z len).nx → z j ≠ 10) ∧ ts.length ≤ (f z len).ts.length ∧ opsN ts ≤ opsN (f z len).ts ∧
    (f z len).wh = 0 ∧ ∀ (z' : Nat → Int) (len' : Nat), (f z len).nx ≤ len' → (∀ j, j < (f z len).nx → z' j = z j) → f z' len' = f z len) ∨
  ((f z len).e ≠ 0 ∧ ∃ w : Nat, (f z len).wh = (w : Int) ∧ i ≤ w ∧ w ≤ len ∧ ((f z len).e = 3 ∨ (f z len).e = 4 ∨ (f z len).e = 5 ∨ (f z len).e = 6) ∧ (w = len → (f z len).e = 4) ∧
    (((f z len).e = 3 ∨ (f z len).e = 4) → w < len → ∀ (z' : Nat → Int) (len' : Nat), w < len' → (∀ j, j ≤ w → z' j = z j) → f z' len' = f z len))
theorem Good.bad {f : (Nat → Int) → Nat → LineR} {z : Nat → Int} {len : Nat} {ts : List TxnM} {i : Nat} {e : Int} {w : Nat} (h : f z len = ⟨ts, 0, e, (w : Int)⟩) (he : e = 3 ∨ e = 4 ∨ e = 5 ∨ e = 6) (hi : i ≤ w) (hw : w ≤ len) (hwl : w = len → e = 4)
    (hl : (e = 3 ∨ e = 4) → w < len → ∀ (z' : Nat → Int) (len' : Nat), w < len' → (∀ j, j ≤ w → z' j = z j) → f z' len' = ⟨ts, 0, e, (w : Int)⟩) : Good f z len ts i := by
  refine .inr ⟨by rw [h]; show e ≠ 0; omega, w, by rw [h], hi, hw, by rw [h]; exact he, by rw [h]; exact hwl, ?_⟩
  rw [h]
  exact hl
theorem Good.ok {f : (Nat → Int) → Nat → LineR} {z : Nat → Int} {len : Nat} {ts ts' : List TxnM} {i nx : Nat} (h : f z len = ⟨ts', nx, 0, 0⟩) (h1 : i < nx) (h2 : nx ≤ len) (h3 : z (nx - 1) = 10) (h4 : ∀ j, i ≤ j → j + 1 < nx → z j ≠ 10)
    (h5 : ts.length ≤ ts'.length) (h6 : opsN ts ≤ opsN ts') (hl : ∀ (z' : Nat → Int) (len' : Nat), nx ≤ len' → (∀ j, j < nx → z' j = z j) → f z' len' = ⟨ts', nx, 0, 0⟩) : Good f z len ts i := by
  refine .inl ?_
  rw [h]
  exact ⟨rfl, h1, h2, h3, h4, h5, h6, rfl, hl⟩
theorem opsN_app (ts us : List TxnM) : opsN (ts ++ us) = opsN ts + opsN us := by simp [opsN]
theorem addOp_len (ts : List TxnM) (o : OpM) : (addOp ts o).length = ts.length := by
  unfold addOp
  cases h : ts.getLast? with
  | none => rfl
  | some t =>
    have : ts ≠ [] := by intro q; subst q; simp at h
    simp
    have : 0 < ts.length := List.length_pos_iff.2 this
    omega
theorem addOp_ops (ts : List TxnM) (o : OpM) (h : ts ≠ []) : opsN (addOp ts o) = opsN ts + 1 := by
  obtain ⟨us, t, rfl⟩ : ∃ us t, ts = us ++ [t] := ⟨_, _, (List.dropLast_concat_getLast h).symm⟩
  simp [addOp, opsN]
  omega

/-- .. a head that leads to g at a place. -/
theorem Good.head {f g : (Nat → Int) → Nat → LineR} {z : Nat → Int} {len : Nat} {ts : List TxnM} {i tz : Nat} (h : Good g z len ts tz) (hfg : f z len = g z len)
    (hloc : tz < len → ∀ (z' : Nat → Int) (len' : Nat), tz < len' → (∀ j, j ≤ tz → z' j = z j) → f z' len' = g z' len') (hi : i ≤ tz) (hn : ∀ j, i ≤ j → j < tz → z j ≠ 10) : Good f z len ts i := by
  rcases h with ⟨e, h1, h2, h3, h4, h5, h6, h7, hl⟩ | ⟨e, w, h1, h2, h3, h4, h5, hl⟩
  · left
    rw [hfg]
    refine ⟨e, by omega, h2, h3, fun j hj hj2 => ?_, h5, h6, h7, fun z' len' hlen hz => ?_⟩
    · rcases Nat.lt_or_ge j tz with q | q
      · exact hn j hj q
      · exact h4 j q hj2
    · rw [hloc (by omega) z' len' (by omega) (fun j hj => hz j (by omega))]
      exact hl z' len' hlen hz
  · right
    rw [hfg]
    refine ⟨e, w, h1, by omega, h3, h4, h5, fun he hw z' len' hlen hz => ?_⟩
    rw [hloc (by omega) z' len' (by omega) (fun j hj => hz j (by omega))]
    exact hl he hw z' len' hlen hz
theorem parse_no10 {z : Nat → Int} {len a t : Nat} {n : Int} (ha : a ≤ len) (h : parse z len (a : Int) = (n, (t : Int), true)) : ∀ j, a ≤ j → j < t → z j ≠ 10 := by
  rcases parse_spec z len a ha with ⟨k, g1, g2, g3, g4, g5, g6⟩ | ⟨k, g2, g3, g4, g5, g6⟩
  · rw [g6] at h
    simp at h
    intro j hj hjt
    have := dgt_iff.1 (g4 (j - a) (by omega))
    rw [show a + (j - a) = j by omega] at this
    omega
  · rw [g6] at h; simp at h
theorem lscan_no10 (z : Nat → Int) (len : Nat) : ∀ (f p : Nat) (acc m : List Int) (t : Nat), p ≤ len → lscan z len f p acc = (m, (t : Int), true) → ∀ j, p ≤ j → j < t → z j ≠ 10
  | 0, p, acc, m, t, hp, h => by simp [lscan] at h; omega
  | f + 1, p, acc, m, t, hp, h => by
    by_cases g : p < len ∧ z p = 32
    · rw [lscan, if_pos g] at h
      rcases parse_two z len (p + 1) (by omega) with ⟨n, u, h1, h2, _, _, hpp⟩ | ⟨u, h1, h2, hpp⟩
      · have hp' : parse z len ((p : Int) + 1) = (n, (u : Int), true) := hpp
        rw [hp'] at h
        simp only [if_true, Int.toNat_natCast] at h
        intro j hj hjt
        rcases Nat.lt_or_ge j u with q | q
        · rcases Nat.eq_or_lt_of_le hj with e | e
          · subst e; rw [g.2]; decide
          · exact parse_no10 (show p + 1 ≤ len by omega) hpp j e q
        · exact lscan_no10 z len f u _ m t h2 h j q hjt
      · have hp' : parse z len ((p : Int) + 1) = (0, (u : Int), false) := hpp
        rw [hp'] at h
        simp at h
    · rw [lscan, if_neg g] at h
      simp at h
      omega
theorem lst_no10 {z : Nat → Int} {len a t : Nat} {m : List Int} (ha : a ≤ len) (h : lst z len (a : Int) = (m, (t : Int), true)) : ∀ j, a ≤ j → j < t → z j ≠ 10 := by
  rw [lst_in ha] at h
  exact lscan_no10 z len _ _ _ m t ha h
theorem lst_ge {z : Nat → Int} {len a : Nat} (ha : a ≤ len) : ∃ (m : List Int) (t : Nat) (ok : Bool), a ≤ t ∧ t ≤ len ∧ lst z len (a : Int) = (m, (t : Int), ok) := by
  rw [lst_in ha]; exact lscan_ge z len _ _ _ ha

theorem endL_good {z : Nat → Int} {len : Nat} {ts : List TxnM} {o : OpM} {tz : Nat} (hto : tz ≤ len) (hts : ts ≠ []) : Good (fun z len => endL z len ts o tz) z len ts tz := by
  by_cases h : isB z len tz 10 = false
  · refine Good.bad (e := 4) (w := tz) (if_pos h) (by omega) (Nat.le_refl _) hto (fun _ => rfl) (fun _ hw z' len' hw' hz => ?_)
    show endL z' len' ts o tz = _
    unfold endL
    rw [isB_same hw hw' (hz tz (Nat.le_refl _)), if_pos h]
  · have hb := isB_iff.1 (by simpa using h)
    refine Good.ok (if_neg h) (by omega) (by omega) hb.2 (fun j hj hj2 => by omega) (by rw [addOp_len]; exact Nat.le_refl _) (by rw [addOp_ops _ _ hts]; omega) (fun z' len' hn hz => ?_)
    show endL z' len' ts o tz = _
    unfold endL
    rw [isB_same hb.1 (by omega) (hz tz (by omega)), if_neg h]
theorem txnT_good {z : Nat → Int} {len : Nat} {ts : List TxnM} {n : Int} {tz : Nat} (hto : tz ≤ len) : Good (fun z len => txnT z len ts n tz) z len ts tz := by
  by_cases h1 : isB z len tz 32 = false
  · refine Good.bad (e := 4) (w := tz) (if_pos h1) (by omega) (Nat.le_refl _) hto (fun _ => rfl) (fun _ hw z' len' hw' hz => ?_)
    show txnT z' len' ts n tz = _
    unfold txnT
    rw [isB_same hw hw' (hz tz (Nat.le_refl _)), if_pos h1]
  · have b1 := isB_iff.1 (by simpa using h1)
    have e1 : ∀ (z' : Nat → Int) (len' : Nat), tz < len' → (∀ j, j ≤ tz → z' j = z j) → isB z' len' tz 32 = isB z len tz 32 := fun z' len' hl hz => isB_same b1.1 hl (hz tz (Nat.le_refl _))
    by_cases h2 : isB z len (tz + 1) 97 = false ∧ isB z len (tz + 1) 99 = false
    · refine Good.bad (e := 4) (w := tz + 1) (by show txnT z len ts n tz = _; unfold txnT; rw [if_neg h1, if_pos h2]) (by omega) (by omega) (by omega) (fun _ => rfl) (fun _ hw z' len' hw' hz => ?_)
      show txnT z' len' ts n tz = _
      unfold txnT
      rw [e1 z' len' (by omega) (fun j hj => hz j (by omega)), if_neg h1, isB_same hw hw' (hz _ (Nat.le_refl _)), isB_same hw hw' (hz _ (Nat.le_refl _)), if_pos h2]
    · have b2 : tz + 1 < len := by
        rcases Nat.lt_or_ge (tz + 1) len with q | q
        · exact q
        · exact absurd ⟨isB_no.2 (by omega), isB_no.2 (by omega)⟩ h2
      have e2 : ∀ (z' : Nat → Int) (len' : Nat) (x : Int), tz + 1 < len' → (∀ j, j ≤ tz + 1 → z' j = z j) → isB z' len' (tz + 1) x = isB z len (tz + 1) x := fun z' len' x hl hz => isB_same b2 hl (hz _ (Nat.le_refl _))
      by_cases h3 : isB z len (tz + 2) 10 = false
      · refine Good.bad (e := 4) (w := tz + 2) (by show txnT z len ts n tz = _; unfold txnT; rw [if_neg h1, if_neg h2, if_pos h3]) (by omega) (by omega) (by omega) (fun _ => rfl) (fun _ hw z' len' hw' hz => ?_)
        show txnT z' len' ts n tz = _
        unfold txnT
        rw [e1 z' len' (by omega) (fun j hj => hz j (by omega)), if_neg h1, e2 z' len' _ (by omega) (fun j hj => hz j (by omega)), e2 z' len' _ (by omega) (fun j hj => hz j (by omega)), if_neg h2, isB_same hw hw' (hz _ (Nat.le_refl _)), if_pos h3]
      · have b3 := isB_iff.1 (by simpa using h3)
        refine Good.ok (ts' := ts ++ [⟨n, z (tz + 1) == 97, []⟩]) (nx := tz + 3) (by show txnT z len ts n tz = _; unfold txnT; rw [if_neg h1, if_neg h2, if_neg h3]) (by omega) (by omega) b3.2 (fun j hj hj2 => ?_) (by simp) (by rw [opsN_app]; omega) (fun z' len' hn hz => ?_)
        · rcases (show j = tz ∨ j = tz + 1 by omega) with rfl | rfl
          · rw [b1.2]; decide
          · intro q
            exact h2 ⟨isB_no.2 (by rw [q]; omega), isB_no.2 (by rw [q]; omega)⟩
        · show txnT z' len' ts n tz = _
          unfold txnT
          rw [e1 z' len' (by omega) (fun j hj => hz j (by omega)), if_neg h1, e2 z' len' _ (by omega) (fun j hj => hz j (by omega)), e2 z' len' _ (by omega) (fun j hj => hz j (by omega)), if_neg h2, isB_same b3.1 (by omega) (hz _ (by omega)), if_neg h3, hz (tz + 1) (by omega)]
theorem readT_good {z : Nat → Int} {len : Nat} {ts : List TxnM} {k : Int} {tz : Nat} (hto : tz ≤ len) (hts : ts ≠ []) : Good (fun z len => readT z len ts k tz) z len ts tz := by
  obtain ⟨m, t, ok, h1, h2, hp⟩ := lst_ge (z := z) hto
  cases ok with
  | false =>
    refine Good.bad (e := 4) (w := t) (by show readT z len ts k tz = _; unfold readT; rw [hp]; simp) (by omega) h1 h2 (fun _ => rfl) (fun _ hw z' len' hw' hz => ?_)
    show readT z' len' ts k tz = _
    unfold readT
    rw [lst_local hto hp hz hw hw']
    simp
  | true =>
    refine Good.head (g := fun z len => endL z len ts ⟨true, k, 0, m⟩ t) (endL_good h2 hts) (by show readT z len ts k tz = _; unfold readT; rw [hp]; simp) (fun hw z' len' hw' hz => ?_) h1 (lst_no10 hto hp)
    show readT z' len' ts k tz = _
    unfold readT
    rw [lst_local hto hp hz hw hw']
    simp
theorem appT_good {z : Nat → Int} {len : Nat} {ts : List TxnM} {k : Int} {tz : Nat} (hto : tz ≤ len) (hts : ts ≠ []) : Good (fun z len => appT z len ts k tz) z len ts tz := by
  by_cases h1 : isB z len tz 32 = false
  · refine Good.bad (e := 4) (w := tz) (if_pos h1) (by omega) (Nat.le_refl _) hto (fun _ => rfl) (fun _ hw z' len' hw' hz => ?_)
    show appT z' len' ts k tz = _
    unfold appT
    rw [isB_same hw hw' (hz tz (Nat.le_refl _)), if_pos h1]
  · have b1 := isB_iff.1 (by simpa using h1)
    have e1 : ∀ (z' : Nat → Int) (len' : Nat), tz < len' → (∀ j, j ≤ tz → z' j = z j) → isB z' len' tz 32 = isB z len tz 32 := fun z' len' hl hz => isB_same b1.1 hl (hz tz (Nat.le_refl _))
    rcases parse_two z len (tz + 1) (by omega) with ⟨n, t, g1, g2, _, _, hp⟩ | ⟨t, g1, g2, hp⟩
    · by_cases ha : appB ts k n = true
      · refine Good.bad (e := 6) (w := tz + 1) (by show appT z len ts k tz = _; unfold appT; rw [if_neg h1, hp]; simp [ha]) (by omega) (by omega) (by omega) (fun q => by omega) (fun q => by omega)
      · refine Good.head (g := fun z len => endL z len ts ⟨false, k, n, []⟩ t) (endL_good g2 hts) (by show appT z len ts k tz = _; unfold appT; rw [if_neg h1, hp]; simp [ha]) (fun hw z' len' hw' hz => ?_) (by omega) (fun j hj hjt => ?_)
        · show appT z' len' ts k tz = _
          unfold appT
          rw [e1 z' len' (by omega) (fun j hj => hz j (by omega)), if_neg h1, parse_local (show tz + 1 ≤ len by omega) hp hz hw hw']
          simp [ha]
        · rcases Nat.eq_or_lt_of_le hj with e | e
          · subst e; rw [b1.2]; decide
          · exact parse_no10 (show tz + 1 ≤ len by omega) hp j e hjt
    · refine Good.bad (e := 4) (w := t) (by show appT z len ts k tz = _; unfold appT; rw [if_neg h1, hp]; simp) (by omega) (by omega) g2 (fun _ => rfl) (fun _ hw z' len' hw' hz => ?_)
      show appT z' len' ts k tz = _
      unfold appT
      rw [e1 z' len' (by omega) (fun j hj => hz j (by omega)), if_neg h1, parse_local (show tz + 1 ≤ len by omega) hp hz hw hw']
      simp
theorem txnS_good {z : Nat → Int} {len : Nat} {ts : List TxnM} {i : Nat} (hi : i < len) (hz0 : z i ≠ 10) : Good (fun z len => txnS z len ts i) z len ts i := by
  by_cases h0 : 1024 ≤ ts.length
  · refine Good.bad (e := 3) (w := i) (if_pos h0) (by omega) (Nat.le_refl _) (by omega) (fun q => by omega) (fun _ hw z' len' hw' hz => if_pos h0)
  by_cases h1 : isB z len (i + 1) 32 = false
  · refine Good.bad (e := 4) (w := i + 1) (by show txnS z len ts i = _; unfold txnS; rw [if_neg h0, if_pos h1]) (by omega) (by omega) (by omega) (fun _ => rfl) (fun _ hw z' len' hw' hz => ?_)
    show txnS z' len' ts i = _
    unfold txnS
    rw [if_neg h0, isB_same hw hw' (hz _ (Nat.le_refl _)), if_pos h1]
  have b1 := isB_iff.1 (by simpa using h1)
  have e1 : ∀ (z' : Nat → Int) (len' : Nat), i + 1 < len' → (∀ j, j ≤ i + 1 → z' j = z j) → isB z' len' (i + 1) 32 = isB z len (i + 1) 32 := fun z' len' hl hz => isB_same b1.1 hl (hz _ (Nat.le_refl _))
  rcases parse_two z len (i + 2) (by omega) with ⟨n, t, g1, g2, _, _, hp⟩ | ⟨t, g1, g2, hp⟩
  · by_cases ha : twinB ts n = true
    · refine Good.bad (e := 5) (w := i + 2) (by show txnS z len ts i = _; unfold txnS; rw [if_neg h0, if_neg h1, hp]; simp [ha]) (by omega) (by omega) (by omega) (fun q => by omega) (fun q => by omega)
    · refine Good.head (g := fun z len => txnT z len ts n t) (txnT_good g2) (by show txnS z len ts i = _; unfold txnS; rw [if_neg h0, if_neg h1, hp]; simp [ha]) (fun hw z' len' hw' hz => ?_) (by omega) (fun j hj hjt => ?_)
      · show txnS z' len' ts i = _
        unfold txnS
        rw [if_neg h0, e1 z' len' (by omega) (fun j hj => hz j (by omega)), if_neg h1, parse_local (show i + 2 ≤ len by omega) hp hz hw hw']
        simp [ha]
      · rcases (show j = i ∨ j = i + 1 ∨ i + 2 ≤ j by omega) with e | e | e
        · subst e; exact hz0
        · subst e; rw [b1.2]; decide
        · exact parse_no10 (show i + 2 ≤ len by omega) hp j e hjt
  · refine Good.bad (e := 4) (w := t) (by show txnS z len ts i = _; unfold txnS; rw [if_neg h0, if_neg h1, hp]; simp) (by omega) (by omega) g2 (fun _ => rfl) (fun _ hw z' len' hw' hz => ?_)
    show txnS z' len' ts i = _
    unfold txnS
    rw [if_neg h0, e1 z' len' (by omega) (fun j hj => hz j (by omega)), if_neg h1, parse_local (show i + 2 ≤ len by omega) hp hz hw hw']
    simp
theorem opS_good {z : Nat → Int} {len : Nat} {most : Int} {ts : List TxnM} {i : Nat} (hi : i < len) (hz0 : z i ≠ 10) : Good (fun z len => opS z len most ts i) z len ts i := by
  by_cases h0 : ts.length = 0
  · refine Good.bad (e := 4) (w := i) (if_pos h0) (by omega) (Nat.le_refl _) (by omega) (fun q => by omega) (fun _ hw z' len' hw' hz => if_pos h0)
  have hts : ts ≠ [] := fun q => h0 (by rw [q]; rfl)
  by_cases h3 : most ≤ (opsN ts : Int)
  · refine Good.bad (e := 3) (w := i) (by show opS z len most ts i = _; unfold opS; rw [if_neg h0, if_pos h3]) (by omega) (Nat.le_refl _) (by omega) (fun q => by omega) (fun _ hw z' len' hw' hz => by show opS z' len' most ts i = _; unfold opS; rw [if_neg h0, if_pos h3])
  by_cases h1 : isB z len (i + 1) 32 = false
  · refine Good.bad (e := 4) (w := i + 1) (by show opS z len most ts i = _; unfold opS; rw [if_neg h0, if_neg h3, if_pos h1]) (by omega) (by omega) (by omega) (fun _ => rfl) (fun _ hw z' len' hw' hz => ?_)
    show opS z' len' most ts i = _
    unfold opS
    rw [if_neg h0, if_neg h3, isB_same hw hw' (hz _ (Nat.le_refl _)), if_pos h1]
  have b1 := isB_iff.1 (by simpa using h1)
  have e1 : ∀ (z' : Nat → Int) (len' : Nat), i + 1 < len' → (∀ j, j ≤ i + 1 → z' j = z j) → isB z' len' (i + 1) 32 = isB z len (i + 1) 32 := fun z' len' hl hz => isB_same b1.1 hl (hz _ (Nat.le_refl _))
  rcases parse_two z len (i + 2) (by omega) with ⟨n, t, g1, g2, _, _, hp⟩ | ⟨t, g1, g2, hp⟩
  · have hno : ∀ j, i ≤ j → j < t → z j ≠ 10 := by
      intro j hj hjt
      rcases (show j = i ∨ j = i + 1 ∨ i + 2 ≤ j by omega) with e | e | e
      · subst e; exact hz0
      · subst e; rw [b1.2]; decide
      · exact parse_no10 (show i + 2 ≤ len by omega) hp j e hjt
    by_cases hr : z i = 114
    · refine Good.head (g := fun z len => readT z len ts n t) (readT_good g2 hts) (by show opS z len most ts i = _; unfold opS; rw [if_neg h0, if_neg h3, if_neg h1, hp]; simp [hr]) (fun hw z' len' hw' hz => ?_) (by omega) hno
      show opS z' len' most ts i = _
      unfold opS
      rw [if_neg h0, if_neg h3, e1 z' len' (by omega) (fun j hj => hz j (by omega)), if_neg h1, parse_local (show i + 2 ≤ len by omega) hp hz hw hw', hz i (by omega)]
      simp [hr]
    · refine Good.head (g := fun z len => appT z len ts n t) (appT_good g2 hts) (by show opS z len most ts i = _; unfold opS; rw [if_neg h0, if_neg h3, if_neg h1, hp]; simp [hr]) (fun hw z' len' hw' hz => ?_) (by omega) hno
      show opS z' len' most ts i = _
      unfold opS
      rw [if_neg h0, if_neg h3, e1 z' len' (by omega) (fun j hj => hz j (by omega)), if_neg h1, parse_local (show i + 2 ≤ len by omega) hp hz hw hw', hz i (by omega)]
      simp [hr]
  · refine Good.bad (e := 4) (w := t) (by show opS z len most ts i = _; unfold opS; rw [if_neg h0, if_neg h3, if_neg h1, hp]; simp) (by omega) (by omega) g2 (fun _ => rfl) (fun _ hw z' len' hw' hz => ?_)
    show opS z' len' most ts i = _
    unfold opS
    rw [if_neg h0, if_neg h3, e1 z' len' (by omega) (fun j hj => hz j (by omega)), if_neg h1, parse_local (show i + 2 ≤ len by omega) hp hz hw hw']
    simp
theorem lineS_good {z : Nat → Int} {len : Nat} {most : Int} {ts : List TxnM} {i : Nat} (hi : i < len) : Good (fun z len => lineS z len most ts i) z len ts i := by
  by_cases h1 : z i = 116
  · refine Good.head (g := fun z len => txnS z len ts i) (txnS_good hi (by rw [h1]; decide)) (if_pos h1) (fun _ z' len' _ hz => ?_) (Nat.le_refl _) (fun j hj hj2 => by omega)
    exact if_pos (by rw [hz i (Nat.le_refl _)]; exact h1)
  by_cases h2 : z i = 97 ∨ z i = 114
  · refine Good.head (g := fun z len => opS z len most ts i) (opS_good hi (by rcases h2 with q | q <;> rw [q] <;> decide)) (by show lineS z len most ts i = _; unfold lineS; rw [if_neg h1, if_pos h2]) (fun _ z' len' _ hz => ?_) (Nat.le_refl _) (fun j hj hj2 => by omega)
    show lineS z' len' most ts i = _
    unfold lineS
    rw [hz i (Nat.le_refl _), if_neg h1, if_pos h2]
  · refine Good.bad (e := 4) (w := i) (by show lineS z len most ts i = _; unfold lineS; rw [if_neg h1, if_neg h2]) (by omega) (Nat.le_refl _) (by omega) (fun _ => rfl) (fun _ hw z' len' hw' hz => ?_)
    show lineS z' len' most ts i = _
    unfold lineS
    rw [hz i (Nat.le_refl _), if_neg h1, if_neg h2]

/-! ### All lines -/
theorem decL_done {z : Nat → Int} {len : Nat} {most : Int} {f : Nat} {ts : List TxnM} {i : Nat} (h : len ≤ i) : decL z len most f ts i = (ts, 0, 0) := by
  cases f with
  | zero => rfl
  | succ f => rw [decL, if_neg (by omega)]
/-- A line's two ends. -/
theorem line_two {z : Nat → Int} {len : Nat} {most : Int} {ts : List TxnM} {i : Nat} (hi : i < len) :
    ((lineS z len most ts i).e = 0 ∧ i < (lineS z len most ts i).nx ∧ (lineS z len most ts i).nx ≤ len ∧ z ((lineS z len most ts i).nx - 1) = 10 ∧ (∀ j, i ≤ j → j + 1 < (lineS z len most ts i).nx → z j ≠ 10) ∧
      ts.length ≤ (lineS z len most ts i).ts.length ∧ opsN ts ≤ opsN (lineS z len most ts i).ts ∧
      ∀ (z' : Nat → Int) (len' : Nat), (lineS z len most ts i).nx ≤ len' → (∀ j, j < (lineS z len most ts i).nx → z' j = z j) → lineS z' len' most ts i = lineS z len most ts i) ∨
    ((lineS z len most ts i).e ≠ 0 ∧ ∃ w : Nat, (lineS z len most ts i).wh = (w : Int) ∧ i ≤ w ∧ w ≤ len ∧ ((lineS z len most ts i).e = 3 ∨ (lineS z len most ts i).e = 4 ∨ (lineS z len most ts i).e = 5 ∨ (lineS z len most ts i).e = 6) ∧ (w = len → (lineS z len most ts i).e = 4) ∧
      (((lineS z len most ts i).e = 3 ∨ (lineS z len most ts i).e = 4) → w < len → ∀ (z' : Nat → Int) (len' : Nat), w < len' → (∀ j, j ≤ w → z' j = z j) → lineS z' len' most ts i = lineS z len most ts i)) := by
  rcases lineS_good (most := most) (ts := ts) (z := z) hi with ⟨e, h1, h2, h3, h4, h5, h6, h7, hl⟩ | h
  · exact .inl ⟨e, h1, h2, h3, h4, h5, h6, hl⟩
  · exact .inr h
/-- Either all lines are right; or there is an error, not ahead of where it was begun, nor past the end; at the end it is that of a wrong form. -/
theorem decL_two {z : Nat → Int} {len : Nat} {most : Int} : ∀ (f : Nat) (ts : List TxnM) (i : Nat),
    ((decL z len most f ts i).2 = (0, 0) ∧ ts.length ≤ (decL z len most f ts i).1.length ∧ opsN ts ≤ opsN (decL z len most f ts i).1) ∨
    ((decL z len most f ts i).1 = [] ∧ (decL z len most f ts i).2.1 ≠ 0 ∧ ∃ w : Nat, (decL z len most f ts i).2.2 = (w : Int) ∧ i ≤ w ∧ w ≤ len)
  | 0, ts, i => .inl ⟨rfl, Nat.le_refl _, Nat.le_refl _⟩
  | f + 1, ts, i => by
    by_cases hi : i < len
    · rw [decL, if_pos hi]
      rcases line_two (most := most) (ts := ts) (z := z) hi with ⟨e, h1, h2, h3, h4, h5, h6, hl⟩ | ⟨e, w, h1, h2, h3, h4, h5, hl⟩
      · rw [if_pos e]
        rcases decL_two (z := z) (len := len) (most := most) f (lineS z len most ts i).ts (lineS z len most ts i).nx with ⟨g1, g2, g3⟩ | ⟨g1, g2, w, g3, g4, g5⟩
        · exact .inl ⟨g1, by omega, by omega⟩
        · exact .inr ⟨g1, g2, w, g3, by omega, g5⟩
      · rw [if_neg e]
        exact .inr ⟨rfl, e, w, h1, h2, h3⟩
    · rw [decL_done (by omega)]
      exact .inl ⟨rfl, Nat.le_refl _, Nat.le_refl _⟩
/-- What is behind a wrong byte decides nothing. -/
theorem decL_behind {z z' : Nat → Int} {len len' : Nat} {most : Int} : ∀ (f f' : Nat) (ts : List TxnM) (i : Nat) (e : Int) (w : Nat), len - i ≤ f → len' - i ≤ f' → decL z len most f ts i = ([], e, (w : Int)) → (e = 3 ∨ e = 4) → w < len → w < len' → (∀ j, j ≤ w → z' j = z j) →
    decL z' len' most f' ts i = ([], e, (w : Int))
  | 0, f', ts, i, e, w, hf, hf', h, he, hw, hw', hz => by
    simp [decL] at h
    omega
  | f + 1, f', ts, i, e, w, hf, hf', h, he, hw, hw', hz => by
    by_cases hi : i < len
    · have hiw : i ≤ w := by
        rcases decL_two (z := z) (len := len) (most := most) (f + 1) ts i with ⟨g1, _, _⟩ | ⟨_, _, w2, g3, g4, _⟩
        · rw [h] at g1; simp at g1; omega
        · rw [h] at g3; simp at g3; omega
      obtain ⟨g0, hg0⟩ : ∃ g0, f' = g0 + 1 := ⟨f' - 1, by omega⟩
      subst hg0
      rw [decL, if_pos hi] at h
      rcases line_two (most := most) (ts := ts) (z := z) hi with ⟨e0, h1, h2, h3, h4, h5, h6, hl⟩ | ⟨e0, w0, h1, h2, h3, h4, h5, hl⟩
      · rw [if_pos e0] at h
        have hnw : (lineS z len most ts i).nx ≤ w := by
          rcases decL_two (z := z) (len := len) (most := most) f (lineS z len most ts i).ts (lineS z len most ts i).nx with ⟨g1, _, _⟩ | ⟨_, _, w2, g3, g4, _⟩
          · rw [h] at g1; simp at g1; omega
          · rw [h] at g3; simp at g3; omega
        have hs := hl z' len' (by omega) (fun j hj => hz j (by omega))
        rw [decL, if_pos (by omega), hs, if_pos e0]
        exact decL_behind f g0 _ _ e w (by omega) (by omega) h he hw hw' hz
      · rw [if_neg e0] at h
        simp at h
        obtain ⟨q1, q2⟩ := h
        rw [h1] at q2
        have ew : w0 = w := by omega
        subst ew
        have hs := hl (by omega) hw z' len' hw' hz
        rw [decL, if_pos (by omega), hs, if_neg e0, q1, h1]
    · rw [decL_done (by omega)] at h
      simp at h
      omega
/-- Bytes without a violation, cut behind any line, have none. -/
theorem decL_cut {z : Nat → Int} {len n : Nat} {most : Int} (hn : n ≤ len) (hend : n = 0 ∨ z (n - 1) = 10) : ∀ (f f' : Nat) (ts : List TxnM) (i : Nat) (us : List TxnM), i ≤ n → len - i ≤ f → n - i ≤ f' → decL z len most f ts i = (us, 0, 0) →
    ∃ vs, decL z n most f' ts i = (vs, 0, 0) ∧ vs.length ≤ us.length ∧ opsN vs ≤ opsN us
  | 0, f', ts, i, us, hi, hf, hf', h => by
    simp [decL] at h
    subst h
    exact ⟨ts, decL_done (by omega), Nat.le_refl _, Nat.le_refl _⟩
  | f + 1, f', ts, i, us, hi, hf, hf', h => by
    by_cases hin : i < n
    · obtain ⟨g0, hg0⟩ : ∃ g0, f' = g0 + 1 := ⟨f' - 1, by omega⟩
      subst hg0
      rw [decL, if_pos (by omega)] at h
      rcases line_two (most := most) (ts := ts) (z := z) (show i < len by omega) with ⟨e0, h1, h2, h3, h4, h5, h6, hl⟩ | ⟨e0, w0, h1, h2, h3, h4, h5, hl⟩
      · rw [if_pos e0] at h
        have hnx : (lineS z len most ts i).nx ≤ n := by
          rcases Nat.lt_or_ge n (lineS z len most ts i).nx with q | q
          · rcases hend with r | r
            · omega
            · exact absurd r (h4 (n - 1) (by omega) (by omega))
          · exact q
        have hs := hl z n hnx (fun j hj => rfl)
        rw [decL, if_pos hin, hs, if_pos e0]
        exact decL_cut hn hend f g0 _ _ us hnx (by omega) (by omega) h
      · rw [if_neg e0] at h
        simp at h
        exact absurd h.2.1 e0
    · have e : n = i := by omega
      subst e
      refine ⟨ts, decL_done (Nat.le_refl _), ?_⟩
      rcases decL_two (z := z) (len := len) (most := most) (f + 1) ts n with ⟨_, g2, g3⟩ | ⟨_, g2, _⟩
      · rw [h] at g2 g3; exact ⟨g2, g3⟩
      · rw [h] at g2; exact absurd rfl g2
end Go.Proofs.Ytofgfcebkmdhcaa.Hist

/- A history's bytes, as a plain function: they are read as that history, and what is read has just those bytes. -/
namespace Go.Proofs.Ytofgfcebkmdhcaa.Hist
open Go.RowKit Go.Proofs.Ytofgfcebkmdhcaa.Dig Go.Proofs.Ytofgfcebkmdhcaa.Mem
set_option linter.unusedVariables false
set_option linter.unusedSimpArgs false

def mayN (n : Int) : Prop := 0 ≤ n ∧ n ≤ 2147483647
def lineT (id : Int) (ab : Bool) : List Int := 116 :: 32 :: (txtI id.toNat ++ [32, if ab then 97 else 99, 10])
def lineO (o : OpM) : List Int := if o.read = true then 114 :: 32 :: (txtI o.key.toNat ++ (flat o.list ++ [10])) else 97 :: 32 :: (txtI o.key.toNat ++ (32 :: (txtI o.value.toNat ++ [10])))
def textT (t : TxnM) : List Int := lineT t.id t.ab ++ (t.ops.map lineO).flatten
def textH (ts : List TxnM) : List Int := (ts.map textT).flatten
theorem textH_app (ts us : List TxnM) : textH (ts ++ us) = textH ts ++ textH us := by simp [textH]
theorem textH_txn (ts : List TxnM) (id : Int) (ab : Bool) : textH (ts ++ [⟨id, ab, []⟩]) = textH ts ++ lineT id ab := by simp [textH, textT]
theorem textH_op (ts : List TxnM) (o : OpM) (h : ts ≠ []) : textH (addOp ts o) = textH ts ++ lineO o := by
  obtain ⟨us, t, rfl⟩ : ∃ us t, ts = us ++ [t] := ⟨_, _, (List.dropLast_concat_getLast h).symm⟩
  simp [addOp, textH, textT]
/-- An operation that may be, behind a history. -/
def OpOk (ts : List TxnM) (o : OpM) : Prop := mayN o.key ∧ ((o.read = true ∧ o.value = 0 ∧ ∀ x ∈ o.list, mayN x) ∨ (o.read = false ∧ mayN o.value ∧ o.list = [] ∧ appB ts o.key o.value = false))
/-- A history that may be, but for how many operations and bytes it has. -/
inductive Valid : List TxnM → Prop
  | nil : Valid []
  | txn {ts : List TxnM} {id : Int} {ab : Bool} (h : Valid ts) (hl : ts.length < 1024) (hi : mayN id) (ht : twinB ts id = false) : Valid (ts ++ [⟨id, ab, []⟩])
  | op {ts : List TxnM} {o : OpM} (h : Valid ts) (hts : ts ≠ []) (ho : OpOk ts o) : Valid (addOp ts o)

/-- l stands at i. -/
def Mat (z : Nat → Int) (i : Nat) (l : List Int) : Prop := sub z i l.length = l
theorem Mat.app {z : Nat → Int} {i : Nat} {l m : List Int} : Mat z i (l ++ m) ↔ Mat z i l ∧ Mat z (i + l.length) m := by
  unfold Mat
  rw [List.length_append, sub_add]
  constructor
  · intro h
    exact List.append_inj h (by rw [sub_len])
  · rintro ⟨h1, h2⟩
    rw [h1, h2]
theorem Mat.cons {z : Nat → Int} {i : Nat} {x : Int} {m : List Int} : Mat z i (x :: m) ↔ z i = x ∧ Mat z (i + 1) m := by
  have := Mat.app (z := z) (i := i) (l := [x]) (m := m)
  simp only [List.singleton_append, List.length_singleton] at this
  rw [this]
  simp [Mat, sub]
theorem Mat.nil {z : Nat → Int} {i : Nat} : Mat z i [] := rfl
theorem Mat.get {z : Nat → Int} {i : Nat} {l : List Int} (h : Mat z i l) : ∀ j, j < l.length → z (i + j) = l.getD j 0 := by
  intro j hj
  rw [← sub_get z i l.length j hj, h]
theorem Mat.parse {z : Nat → Int} {len i : Nat} {n : Int} (hn : mayN n) (h : Mat z i (txtI n.toNat)) (hl : i + (txtI n.toNat).length < len) (hd : dgt (z (i + (txtI n.toNat).length)) = false) :
    parse z len (i : Int) = (n, ((i + (txtI n.toNat).length : Nat) : Int), true) := by
  have := parse_back (z := z) (len := len) (a := i) (n := n.toNat) (by unfold mayN at hn; omega) (by omega) h.get (.inr hd)
  rw [this, show ((n.toNat : Nat) : Int) = n by unfold mayN at hn; omega]

/-! ### The bytes of a history are read as that history -/
theorem line_txt {z : Nat → Int} {len i : Nat} {most : Int} {ts : List TxnM} {id : Int} {ab : Bool} (hl : ts.length < 1024) (hi : mayN id) (ht : twinB ts id = false) (hm : Mat z i (lineT id ab)) (hlen : i + (lineT id ab).length ≤ len) :
    lineS z len most ts i = ⟨ts ++ [⟨id, ab, []⟩], i + (lineT id ab).length, 0, 0⟩ := by
  have hL : (lineT id ab).length = (txtI id.toNat).length + 5 := by simp [lineT]
  rw [hL] at hlen ⊢
  unfold lineT at hm
  obtain ⟨z0, hm⟩ := Mat.cons.1 hm
  obtain ⟨z1, hm⟩ := Mat.cons.1 hm
  obtain ⟨h2, hm⟩ := Mat.app.1 hm
  obtain ⟨z3, hm⟩ := Mat.cons.1 hm
  obtain ⟨z4, hm⟩ := Mat.cons.1 hm
  obtain ⟨z5, _⟩ := Mat.cons.1 hm
  have hp := Mat.parse (len := len) hi h2 (by omega) (by rw [z3]; decide)
  rw [show i + 1 + 1 = i + 2 by omega] at hp z3 z4 z5
  obtain ⟨tz, hto⟩ : ∃ tz, i + 2 + (txtI id.toNat).length = tz := ⟨_, rfl⟩
  rw [hto] at hp z3 z4 z5
  rw [show tz + 1 + 1 = tz + 2 by omega] at z5
  have b1 : isB z len (i + 1) 32 = true := isB_iff.2 ⟨by omega, z1⟩
  have b2 : isB z len tz 32 = true := isB_iff.2 ⟨by omega, z3⟩
  have b4 : isB z len (tz + 2) 10 = true := isB_iff.2 ⟨by omega, z5⟩
  have b3 : ¬ (isB z len (tz + 1) 97 = false ∧ isB z len (tz + 1) 99 = false) := by
    rintro ⟨q1, q2⟩
    cases ab
    · exact absurd (isB_iff.2 ⟨by omega, z4⟩ : isB z len (tz + 1) 99 = true) (by simp [q2])
    · exact absurd (isB_iff.2 ⟨by omega, z4⟩ : isB z len (tz + 1) 97 = true) (by simp [q1])
  have hab : (z (tz + 1) == 97) = ab := by rw [z4]; cases ab <;> decide
  unfold lineS
  rw [if_pos z0]
  unfold txnS
  rw [if_neg (by omega), b1, hp, if_neg (by simp), if_neg (by simp), ht, if_neg (by simp)]
  simp only [Int.toNat_natCast]
  unfold txnT
  rw [b2, if_neg (by simp), if_neg b3, b4, if_neg (by simp), hab, show tz + 3 = i + ((txtI id.toNat).length + 5) by omega]
theorem line_op {z : Nat → Int} {len i : Nat} {most : Int} {ts : List TxnM} {o : OpM} (hts : ts ≠ []) (hn : (opsN ts : Int) < most) (ho : OpOk ts o) (hm : Mat z i (lineO o)) (hlen : i + (lineO o).length ≤ len) :
    lineS z len most ts i = ⟨addOp ts o, i + (lineO o).length, 0, 0⟩ := by
  obtain ⟨hk, hr | hr⟩ := ho
  · obtain ⟨r1, r2, r3⟩ := hr
    obtain ⟨rd, key, value, list⟩ := o
    simp only at r1 r2 r3 hk
    subst r1 r2
    have hO : lineO ⟨true, key, 0, list⟩ = 114 :: 32 :: (txtI key.toNat ++ (flat list ++ [10])) := rfl
    rw [hO] at hm hlen ⊢
    have hL : (114 :: 32 :: (txtI key.toNat ++ (flat list ++ [10])) : List Int).length = (txtI key.toNat).length + (flat list).length + 3 := by simp; omega
    rw [hL] at hlen ⊢
    obtain ⟨z0, hm⟩ := Mat.cons.1 hm
    obtain ⟨z1, hm⟩ := Mat.cons.1 hm
    obtain ⟨h2, hm⟩ := Mat.app.1 hm
    obtain ⟨h3, hm⟩ := Mat.app.1 hm
    obtain ⟨z4, _⟩ := Mat.cons.1 hm
    have hd : dgt (z (i + 1 + 1 + (txtI key.toNat).length)) = false := by
      cases list with
      | nil => simp [flat] at z4; rw [z4]; decide
      | cons x l => have := (Mat.cons.1 (show Mat z _ (32 :: (txtI x.toNat ++ flat l)) from h3)).1; rw [this]; decide
    have hp := Mat.parse (len := len) hk h2 (by omega) hd
    rw [show i + 1 + 1 = i + 2 by omega] at hp h3 z4
    obtain ⟨tz, hto⟩ : ∃ tz, i + 2 + (txtI key.toNat).length = tz := ⟨_, rfl⟩
    rw [hto] at hp h3 z4
    have hl : lst z len (tz : Int) = (list, ((tz + (flat list).length : Nat) : Int), true) := lst_back list tz r3 (by omega) h3.get (.inr ⟨by rw [z4]; decide, by rw [z4]; decide⟩)
    have b1 : isB z len (i + 1) 32 = true := isB_iff.2 ⟨by omega, z1⟩
    have b4 : isB z len (tz + (flat list).length) 10 = true := isB_iff.2 ⟨by omega, z4⟩
    unfold lineS
    rw [if_neg (by rw [z0]; decide), if_pos (.inr z0)]
    unfold opS
    rw [if_neg (fun q => hts (List.eq_nil_of_length_eq_zero q)), if_neg (by omega), b1, hp, if_neg (by simp), if_neg (by simp), if_pos z0]
    simp only [Int.toNat_natCast]
    unfold readT
    rw [hl, if_neg (by simp)]
    simp only [Int.toNat_natCast]
    unfold endL
    rw [b4, if_neg (by simp), show tz + (flat list).length + 1 = i + ((txtI key.toNat).length + (flat list).length + 3) by omega]
  · obtain ⟨r1, r2, r3, r4⟩ := hr
    obtain ⟨rd, key, value, list⟩ := o
    simp only at r1 r2 r3 r4 hk
    subst r1 r3
    have hO : lineO ⟨false, key, value, []⟩ = 97 :: 32 :: (txtI key.toNat ++ (32 :: (txtI value.toNat ++ [10]))) := rfl
    rw [hO] at hm hlen ⊢
    have hL : (97 :: 32 :: (txtI key.toNat ++ (32 :: (txtI value.toNat ++ [10]))) : List Int).length = (txtI key.toNat).length + (txtI value.toNat).length + 4 := by simp; omega
    rw [hL] at hlen ⊢
    obtain ⟨z0, hm⟩ := Mat.cons.1 hm
    obtain ⟨z1, hm⟩ := Mat.cons.1 hm
    obtain ⟨h2, hm⟩ := Mat.app.1 hm
    obtain ⟨z3, hm⟩ := Mat.cons.1 hm
    obtain ⟨h3, hm⟩ := Mat.app.1 hm
    obtain ⟨z4, _⟩ := Mat.cons.1 hm
    have hp := Mat.parse (len := len) hk h2 (by omega) (by rw [z3]; decide)
    have hp2 := Mat.parse (len := len) r2 h3 (by omega) (by rw [z4]; decide)
    rw [show i + 1 + 1 = i + 2 by omega] at hp hp2 z3 z4
    obtain ⟨tz, hto⟩ : ∃ tz, i + 2 + (txtI key.toNat).length = tz := ⟨_, rfl⟩
    rw [hto] at hp hp2 z3 z4
    obtain ⟨t2, ht2⟩ : ∃ t2, tz + 1 + (txtI value.toNat).length = t2 := ⟨_, rfl⟩
    rw [ht2] at hp2 z4
    have b1 : isB z len (i + 1) 32 = true := isB_iff.2 ⟨by omega, z1⟩
    have b2 : isB z len tz 32 = true := isB_iff.2 ⟨by omega, z3⟩
    have b4 : isB z len t2 10 = true := isB_iff.2 ⟨by omega, z4⟩
    unfold lineS
    rw [if_neg (by rw [z0]; decide), if_pos (.inl z0)]
    unfold opS
    rw [if_neg (fun q => hts (List.eq_nil_of_length_eq_zero q)), if_neg (by omega), b1, hp, if_neg (by simp), if_neg (by simp), if_neg (by rw [z0]; decide)]
    simp only [Int.toNat_natCast]
    unfold appT
    rw [b2, if_neg (by simp), hp2, if_neg (by simp), r4, if_neg (by simp)]
    simp only [Int.toNat_natCast]
    unfold endL
    rw [b4, if_neg (by simp), show t2 + 1 = i + ((txtI key.toNat).length + (txtI value.toNat).length + 4) by omega]
theorem lineT_pos (id : Int) (ab : Bool) : 0 < (lineT id ab).length := by simp [lineT]
theorem lineO_pos (o : OpM) : 0 < (lineO o).length := by unfold lineO; split <;> simp
theorem decL_text {z : Nat → Int} {len : Nat} {most : Int} {ts : List TxnM} (hv : Valid ts) : (opsN ts : Int) ≤ most → Mat z 0 (textH ts) → (textH ts).length ≤ len → ∀ f, len ≤ f →
    ∃ f', len - (textH ts).length ≤ f' ∧ decL z len most f [] 0 = decL z len most f' ts (textH ts).length := by
  induction hv with
  | nil => intro _ _ _ f hf; exact ⟨f, by omega, rfl⟩
  | @txn ts id ab h hl hi ht ih =>
    intro ho hm hlen f hf
    rw [textH_txn] at hm hlen ⊢
    rw [List.length_append] at hlen ⊢
    rw [opsN_app] at ho
    obtain ⟨m1, m2⟩ := Mat.app.1 hm
    rw [Nat.zero_add] at m2
    obtain ⟨f1, g1, g2⟩ := ih (by omega) m1 (by omega) f hf
    have := lineT_pos id ab
    obtain ⟨f2, hf2⟩ : ∃ f2, f1 = f2 + 1 := ⟨f1 - 1, by omega⟩
    subst hf2
    refine ⟨f2, by omega, ?_⟩
    rw [g2, decL, if_pos (by omega), line_txt hl hi ht m2 (by omega), if_pos rfl]
  | @op ts o h hts hok ih =>
    intro ho hm hlen f hf
    rw [textH_op _ _ hts] at hm hlen ⊢
    rw [List.length_append] at hlen ⊢
    rw [addOp_ops _ _ hts] at ho
    obtain ⟨m1, m2⟩ := Mat.app.1 hm
    rw [Nat.zero_add] at m2
    obtain ⟨f1, g1, g2⟩ := ih (by omega) m1 (by omega) f hf
    have := lineO_pos o
    obtain ⟨f2, hf2⟩ : ∃ f2, f1 = f2 + 1 := ⟨f1 - 1, by omega⟩
    subst hf2
    refine ⟨f2, by omega, ?_⟩
    rw [g2, decL, if_pos (by omega), line_op hts (by omega) hok m2 (by omega), if_pos rfl]
/-- A history that may be comes back from its bytes. -/
theorem decS_back {z : Nat → Int} {most : Nat} {ts : List TxnM} (hv : Valid ts) (ho : opsN ts ≤ most) (hm : most ≤ 4096) (hl : (textH ts).length ≤ 262144) (hz : Mat z 0 (textH ts)) : decS z (textH ts).length (most : Int) = (ts, 0, 0) := by
  unfold decS
  rw [if_neg (by omega), if_neg (by omega)]
  obtain ⟨f', _, h⟩ := decL_text (len := (textH ts).length) (most := (most : Int)) hv (by omega) hz (Nat.le_refl _) (textH ts).length (Nat.le_refl _)
  rw [h, decL_done (Nat.le_refl _)]

/-! ### What is read has just those bytes -/
theorem Mat.of_sub {z : Nat → Int} {i t : Nat} {l : List Int} (h : l = sub z i (t - i)) : Mat z i l ∧ l.length = t - i := by
  have hl : l.length = t - i := by rw [h, sub_len]
  exact ⟨by unfold Mat; rw [hl]; exact h.symm, hl⟩
theorem txnS_inv {z : Nat → Int} {len i : Nat} {ts : List TxnM} (hi : i < len) (hz0 : z i = 116) (h : (txnS z len ts i).e = 0) :
    ∃ id ab, (txnS z len ts i).ts = ts ++ [⟨id, ab, []⟩] ∧ ts.length < 1024 ∧ mayN id ∧ twinB ts id = false ∧ Mat z i (lineT id ab) ∧ (txnS z len ts i).nx = i + (lineT id ab).length := by
  by_cases h0 : 1024 ≤ ts.length
  · exfalso; unfold txnS at h; rw [if_pos h0] at h; simp at h
  by_cases h1 : isB z len (i + 1) 32 = false
  · exfalso; unfold txnS at h; rw [if_neg h0, if_pos h1] at h; simp at h
  have b1 := isB_iff.1 (by simpa using h1)
  rcases parse_two z len (i + 2) (by omega) with ⟨n, t, g1, g2, n0, n1, hp⟩ | ⟨t, g1, g2, hp⟩
  · by_cases ha : twinB ts n = true
    · exfalso; unfold txnS at h; rw [if_neg h0, if_neg h1, hp] at h; simp [ha] at h
    · have e : txnS z len ts i = txnT z len ts n t := by unfold txnS; rw [if_neg h0, if_neg h1, hp]; simp [ha]
      rw [e] at h ⊢
      have hx := (parse_text (show i + 2 ≤ len by omega) hp).2.2.2.2
      obtain ⟨m2, l2⟩ := Mat.of_sub hx
      by_cases h2 : isB z len t 32 = false
      · exfalso; unfold txnT at h; rw [if_pos h2] at h; simp at h
      have b2 := isB_iff.1 (by simpa using h2)
      by_cases h3 : isB z len (t + 1) 97 = false ∧ isB z len (t + 1) 99 = false
      · exfalso; unfold txnT at h; rw [if_neg h2, if_pos h3] at h; simp at h
      by_cases h4 : isB z len (t + 2) 10 = false
      · exfalso; unfold txnT at h; rw [if_neg h2, if_neg h3, if_pos h4] at h; simp at h
      have b4 := isB_iff.1 (by simpa using h4)
      have e2 : txnT z len ts n t = ⟨ts ++ [⟨n, z (t + 1) == 97, []⟩], t + 3, 0, 0⟩ := by unfold txnT; rw [if_neg h2, if_neg h3, if_neg h4]
      rw [e2]
      have h5 : z (t + 1) = if (z (t + 1) == 97) = true then 97 else 99 := by
        by_cases q : z (t + 1) = 97
        · simp [q]
        · have q' : (z (t + 1) == 97) = false := by simpa using q
          rw [q']
          by_cases r : isB z len (t + 1) 99 = true
          · exact (isB_iff.1 r).2
          · exact absurd ⟨isB_no.2 (fun w => q w.2), by simpa using r⟩ h3
      refine ⟨n, z (t + 1) == 97, rfl, by omega, ⟨n0, n1⟩, by simpa using ha, ?_, ?_⟩
      · unfold lineT
        refine Mat.cons.2 ⟨hz0, Mat.cons.2 ⟨b1.2, Mat.app.2 ⟨m2, ?_⟩⟩⟩
        rw [l2, show i + 1 + 1 + (t - (i + 2)) = t by omega]
        exact Mat.cons.2 ⟨b2.2, Mat.cons.2 ⟨h5, Mat.cons.2 ⟨b4.2, Mat.nil⟩⟩⟩
      · show t + 3 = _
        simp [lineT, l2]
        omega
  · exfalso; unfold txnS at h; rw [if_neg h0, if_neg h1, hp] at h; simp at h
theorem endL_inv {z : Nat → Int} {len tz : Nat} {ts : List TxnM} {o : OpM} (h : (endL z len ts o tz).e = 0) : endL z len ts o tz = ⟨addOp ts o, tz + 1, 0, 0⟩ ∧ tz < len ∧ z tz = 10 := by
  by_cases h1 : isB z len tz 10 = false
  · exfalso; unfold endL at h; rw [if_pos h1] at h; simp at h
  · have b1 := isB_iff.1 (by simpa using h1)
    exact ⟨by unfold endL; rw [if_neg h1], b1.1, b1.2⟩
theorem opS_inv {z : Nat → Int} {len i : Nat} {most : Int} {ts : List TxnM} (hi : i < len) (hz0 : z i = 97 ∨ z i = 114) (h : (opS z len most ts i).e = 0) :
    ∃ o, (opS z len most ts i).ts = addOp ts o ∧ ts ≠ [] ∧ (opsN ts : Int) < most ∧ OpOk ts o ∧ Mat z i (lineO o) ∧ (opS z len most ts i).nx = i + (lineO o).length := by
  by_cases h0 : ts.length = 0
  · exfalso; unfold opS at h; rw [if_pos h0] at h; simp at h
  have hts : ts ≠ [] := fun q => h0 (by rw [q]; rfl)
  by_cases h3 : most ≤ (opsN ts : Int)
  · exfalso; unfold opS at h; rw [if_neg h0, if_pos h3] at h; simp at h
  by_cases h1 : isB z len (i + 1) 32 = false
  · exfalso; unfold opS at h; rw [if_neg h0, if_neg h3, if_pos h1] at h; simp at h
  have b1 := isB_iff.1 (by simpa using h1)
  rcases parse_two z len (i + 2) (by omega) with ⟨n, t, g1, g2, n0, n1, hp⟩ | ⟨t, g1, g2, hp⟩
  · obtain ⟨m2, l2⟩ := Mat.of_sub (parse_text (show i + 2 ≤ len by omega) hp).2.2.2.2
    by_cases hr : z i = 114
    · have e : opS z len most ts i = readT z len ts n t := by unfold opS; rw [if_neg h0, if_neg h3, if_neg h1, hp]; simp [hr]
      rw [e] at h ⊢
      obtain ⟨m, u, ok, u1, u2, hl⟩ := lst_ge (z := z) g2
      cases ok with
      | true =>
        have e2 : readT z len ts n t = endL z len ts ⟨true, n, 0, m⟩ u := by unfold readT; rw [hl]; simp
        rw [e2] at h ⊢
        obtain ⟨e3, v1, v2⟩ := endL_inv h
        rw [e3]
        obtain ⟨_, _, w3, w4⟩ := lst_text g2 hl
        obtain ⟨m4, l4⟩ := Mat.of_sub w3.symm
        refine ⟨⟨true, n, 0, m⟩, rfl, hts, by omega, ⟨⟨n0, n1⟩, .inl ⟨rfl, rfl, w4⟩⟩, ?_, ?_⟩
        · show Mat z i (114 :: 32 :: (txtI n.toNat ++ (flat m ++ [10])))
          refine Mat.cons.2 ⟨hr, Mat.cons.2 ⟨b1.2, Mat.app.2 ⟨m2, ?_⟩⟩⟩
          rw [l2, show i + 1 + 1 + (t - (i + 2)) = t by omega]
          refine Mat.app.2 ⟨m4, ?_⟩
          rw [l4, show t + (u - t) = u by omega]
          exact Mat.cons.2 ⟨v2, Mat.nil⟩
        · show u + 1 = i + (114 :: 32 :: (txtI n.toNat ++ (flat m ++ [10])) : List Int).length
          simp [l2, l4]
          omega
      | false => exfalso; unfold readT at h; rw [hl] at h; simp at h
    · have e : opS z len most ts i = appT z len ts n t := by unfold opS; rw [if_neg h0, if_neg h3, if_neg h1, hp]; simp [hr]
      rw [e] at h ⊢
      have hz : z i = 97 := hz0.resolve_right hr
      by_cases h2 : isB z len t 32 = false
      · exfalso; unfold appT at h; rw [if_pos h2] at h; simp at h
      have b2 := isB_iff.1 (by simpa using h2)
      rcases parse_two z len (t + 1) (by omega) with ⟨m, u, u1, u2, k0, k1, hp2⟩ | ⟨u, u1, u2, hp2⟩
      · by_cases ha : appB ts n m = true
        · exfalso; unfold appT at h; rw [if_neg h2, hp2] at h; simp [ha] at h
        · have e2 : appT z len ts n t = endL z len ts ⟨false, n, m, []⟩ u := by unfold appT; rw [if_neg h2, hp2]; simp [ha]
          rw [e2] at h ⊢
          obtain ⟨e3, v1, v2⟩ := endL_inv h
          rw [e3]
          obtain ⟨m4, l4⟩ := Mat.of_sub (parse_text (show t + 1 ≤ len by omega) hp2).2.2.2.2
          refine ⟨⟨false, n, m, []⟩, rfl, hts, by omega, ⟨⟨n0, n1⟩, .inr ⟨rfl, ⟨k0, k1⟩, rfl, by simpa using ha⟩⟩, ?_, ?_⟩
          · show Mat z i (97 :: 32 :: (txtI n.toNat ++ (32 :: (txtI m.toNat ++ [10]))))
            refine Mat.cons.2 ⟨hz, Mat.cons.2 ⟨b1.2, Mat.app.2 ⟨m2, ?_⟩⟩⟩
            rw [l2, show i + 1 + 1 + (t - (i + 2)) = t by omega]
            refine Mat.cons.2 ⟨b2.2, Mat.app.2 ⟨m4, ?_⟩⟩
            rw [l4, show t + 1 + (u - (t + 1)) = u by omega]
            exact Mat.cons.2 ⟨v2, Mat.nil⟩
          · show u + 1 = i + (97 :: 32 :: (txtI n.toNat ++ (32 :: (txtI m.toNat ++ [10]))) : List Int).length
            simp [l2, l4]
            omega
      · exfalso; unfold appT at h; rw [if_neg h2, hp2] at h; simp at h
  · exfalso; unfold opS at h; rw [if_neg h0, if_neg h3, if_neg h1, hp] at h; simp at h
theorem decL_inv {z : Nat → Int} {len : Nat} {most : Int} : ∀ (f : Nat) (ts us : List TxnM) (i : Nat), Valid ts → Mat z 0 (textH ts) → (textH ts).length = i → i ≤ len → (opsN ts : Int) ≤ most → len - i ≤ f → decL z len most f ts i = (us, 0, 0) →
    Valid us ∧ Mat z 0 (textH us) ∧ (textH us).length = len ∧ (opsN us : Int) ≤ most
  | 0, ts, us, i, hv, hm, hl, hi, ho, hf, h => by
    simp [decL] at h
    subst h
    exact ⟨hv, hm, by omega, ho⟩
  | f + 1, ts, us, i, hv, hm, hl, hi, ho, hf, h => by
    by_cases hlt : i < len
    · rw [decL, if_pos hlt] at h
      by_cases e0 : (lineS z len most ts i).e = 0
      · rw [if_pos e0] at h
        by_cases h1 : z i = 116
        · have e : lineS z len most ts i = txnS z len ts i := if_pos h1
          rw [e] at e0 h
          obtain ⟨id, ab, q1, q2, q3, q4, q5, q6⟩ := txnS_inv hlt h1 e0
          have hnx : (txnS z len ts i).nx ≤ len := by
            rcases txnS_good (ts := ts) hlt (show z i ≠ 10 by rw [h1]; decide) with ⟨_, _, g, _⟩ | ⟨g, _⟩
            · exact g
            · exact absurd e0 g
          rw [q1] at h
          have htx := textH_txn ts id ab
          refine decL_inv f _ us _ (Valid.txn hv q2 q3 q4) ?_ ?_ hnx ?_ ?_ h
          · rw [htx]
            refine Mat.app.2 ⟨hm, ?_⟩
            rw [hl, Nat.zero_add]; exact q5
          · rw [htx, List.length_append, q6, hl]
          · rw [opsN_app]
            have : opsN [⟨id, ab, []⟩] = 0 := rfl
            omega
          · have := lineT_pos id ab; omega
        · by_cases h2 : z i = 97 ∨ z i = 114
          · have e : lineS z len most ts i = opS z len most ts i := by unfold lineS; rw [if_neg h1, if_pos h2]
            rw [e] at e0 h
            obtain ⟨o, q1, q2, q3, q4, q5, q6⟩ := opS_inv hlt h2 e0
            have hnx : (opS z len most ts i).nx ≤ len := by
              rcases opS_good (ts := ts) (most := most) hlt (show z i ≠ 10 by rcases h2 with q | q <;> rw [q] <;> decide) with ⟨_, _, g, _⟩ | ⟨g, _⟩
              · exact g
              · exact absurd e0 g
            rw [q1] at h
            have htx := textH_op ts o q2
            refine decL_inv f _ us _ (Valid.op hv q2 q4) ?_ ?_ hnx ?_ ?_ h
            · rw [htx]
              refine Mat.app.2 ⟨hm, ?_⟩
              rw [hl, Nat.zero_add]; exact q5
            · rw [htx, List.length_append, q6, hl]
            · rw [addOp_ops _ _ q2]; omega
            · have := lineO_pos o; omega
          · exfalso
            have e : lineS z len most ts i = ⟨ts, 0, 4, i⟩ := by unfold lineS; rw [if_neg h1, if_neg h2]
            rw [e] at e0
            simp at e0
      · rw [if_neg e0] at h
        simp at h
        exact absurd h.2.1 e0
    · rw [decL_done (by omega)] at h
      simp at h
      subst h
      exact ⟨hv, hm, by omega, ho⟩
/-- Bytes without a violation are those of their history, which may be. -/
theorem decS_inv {z : Nat → Int} {len : Nat} {most : Int} {us : List TxnM} (h : decS z len most = (us, 0, 0)) : Valid us ∧ Mat z 0 (textH us) ∧ (textH us).length = len ∧ (opsN us : Int) ≤ most ∧ len ≤ 262144 := by
  unfold decS at h
  by_cases h0 : most < 0 ∨ 4096 < most
  · rw [if_pos h0] at h; simp at h
  by_cases h1 : 262144 < len
  · rw [if_neg h0, if_pos h1] at h; simp at h
  rw [if_neg h0, if_neg h1] at h
  obtain ⟨a, b, c, d⟩ := decL_inv len [] us 0 Valid.nil Mat.nil rfl (Nat.zero_le _) (by show ((0 : Nat) : Int) ≤ most; omega) (by omega) h
  exact ⟨a, b, c, d, by omega⟩
end Go.Proofs.Ytofgfcebkmdhcaa.Hist
