/- Joined out of the texts Local, HistPlain, in that order. -/
import Derived.Test.YtkinmllflodhaaaGreatAll2
/- What is read hangs only on what was looked at. -/
namespace Go.Proofs.YtkinmllflodhaaaGreat.Dig
open Go.RowKit
set_option linter.unusedVariables false
set_option linter.unusedSimpArgs false

theorem val_congr {z z' : Nat → Int} {a : Nat} : ∀ k, (∀ i, i < k → z' (a + i) = z (a + i)) → val z' a k = val z a k
  | 0, _ => rfl
  | k + 1, h => by
    show 10 * val z' a k + (z' (a + k) - 48) = 10 * val z a k + (z (a + k) - 48)
    rw [val_congr k (fun i hi => h i (by omega)), h k (by omega)]
theorem okm_congr {z z' : Nat → Int} {a k : Nat} (h : ∀ i, i < k → z' (a + i) = z (a + i)) : okm z' a k = okm z a k := by
  unfold okm
  rw [val_congr k h]
  rcases Nat.eq_zero_or_pos k with rfl | hk
  · simp
  · have := h 0 hk
    rw [Nat.add_zero] at this
    rw [this]
theorem parse_bad {z : Nat → Int} {len a k : Nat} (hk : a + k ≤ len) (hok : k = 0 ∨ okm z a k = true) (hd : ∀ i, i < k → dgt (z (a + i)) = true)
    (he : (k = 0 ∧ ¬ (a < len ∧ dgt (z a) = true)) ∨ (a + k < len ∧ dgt (z (a + k)) = true ∧ ¬ okm z a (k + 1) = true)) : parse z len (a : Int) = (0, ((a + k : Nat) : Int), false) := by
  rcases parse_spec z len a (by omega) with ⟨q, g1, g2, g3, g4, g5, g6⟩ | ⟨q, g2, g3, g4, g5, g6⟩
  · exfalso
    rcases he with ⟨rfl, g⟩ | ⟨q1, q2, q3⟩
    · exact g ⟨by omega, by have := g4 0 (by omega); simpa using this⟩
    · by_cases e : q < k
      · exact g5 ⟨by omega, hd q e⟩
      · by_cases e' : k < q
        · exact q3 (okm_mono g3 (by omega) (by omega) g4)
        · obtain rfl : q = k := by omega
          exact g5 ⟨q1, q2⟩
  · by_cases e : q = k
    · rw [← e]; exact g6
    · exfalso
      rcases Nat.lt_or_gt_of_ne e with h | h
      · rcases g5 with ⟨rfl, g⟩ | ⟨q1, q2, q3⟩
        · exact g ⟨by omega, by have := hd 0 (by omega); simpa using this⟩
        · rcases hok with rfl | hok
          · omega
          · exact q3 (okm_mono hok (by omega) (by omega) hd)
      · rcases he with ⟨rfl, g⟩ | ⟨q1, q2, q3⟩
        · exact g ⟨by omega, by have := g4 0 (by omega); simpa using this⟩
        · rcases g3 with rfl | g3
          · omega
          · exact q3 (okm_mono g3 (by omega) (by omega) g4)
theorem parse_local {z z' : Nat → Int} {len len' a t : Nat} {n : Int} {ok : Bool} (ha : a ≤ len) (h : parse z len (a : Int) = (n, (t : Int), ok)) (hg : ∀ i, i ≤ t → z' i = z i) (ht : t < len) (ht' : t < len') :
    parse z' len' (a : Int) = (n, (t : Int), ok) := by
  rcases parse_spec z len a ha with ⟨k, g1, g2, g3, g4, g5, g6⟩ | ⟨k, g2, g3, g4, g5, g6⟩
  · rw [g6] at h
    simp at h
    obtain ⟨hn, ht2, rfl⟩ := h
    obtain rfl : t = a + k := by omega
    have hc : ∀ i, i < k → z' (a + i) = z (a + i) := fun i hi => hg _ (by omega)
    rw [parse_to (by omega) g1 (by rw [okm_congr hc]; exact g3) (fun i hi => by rw [hc i hi]; exact g4 i hi) (by rw [hg _ (Nat.le_refl _)]; intro q; exact g5 ⟨ht, q.2⟩), val_congr k hc, hn]
  · rw [g6] at h
    simp at h
    obtain ⟨rfl, ht2, rfl⟩ := h
    obtain rfl : t = a + k := by omega
    have hc : ∀ i, i < k → z' (a + i) = z (a + i) := fun i hi => hg _ (by omega)
    refine parse_bad (by omega) (by rw [okm_congr hc]; exact g3) (fun i hi => by rw [hc i hi]; exact g4 i hi) ?_
    rcases g5 with ⟨rfl, g⟩ | ⟨q1, q2, q3⟩
    · left
      have e0 := hg a (by omega)
      exact ⟨rfl, by rw [e0]; intro q; exact g ⟨by omega, q.2⟩⟩
    · right
      have hc1 : ∀ i, i < k + 1 → z' (a + i) = z (a + i) := fun i hi => hg _ (by omega)
      exact ⟨ht', by rw [hg _ (Nat.le_refl _)]; exact q2, by rw [okm_congr hc1]; exact q3⟩
theorem lscan_ge (z : Nat → Int) (len : Nat) : ∀ (f p : Nat) (acc : List Int), p ≤ len → ∃ (m : List Int) (t : Nat) (ok : Bool), p ≤ t ∧ t ≤ len ∧ lscan z len f p acc = (m, (t : Int), ok)
  | 0, p, acc, h => ⟨acc, p, true, Nat.le_refl _, h, rfl⟩
  | f + 1, p, acc, h => by
    by_cases g : p < len ∧ z p = 32
    · rcases parse_two z len (p + 1) (by omega) with ⟨n, u, h1, h2, _, _, hp⟩ | ⟨u, h1, h2, hp⟩
      · have hp' : parse z len ((p : Int) + 1) = (n, (u : Int), true) := hp
        obtain ⟨m, t, ok, g1, g2, g3⟩ := lscan_ge z len f u (acc ++ [n]) h2
        exact ⟨m, t, ok, by omega, g2, by rw [lscan, if_pos g, hp']; simpa using g3⟩
      · have hp' : parse z len ((p : Int) + 1) = (0, (u : Int), false) := hp
        exact ⟨[], u, false, by omega, h2, by rw [lscan, if_pos g, hp']; simp⟩
    · exact ⟨acc, p, true, Nat.le_refl _, h, by rw [lscan, if_neg g]⟩
theorem lscan_local {z z' : Nat → Int} {len len' : Nat} : ∀ (f f' p : Nat) (acc l : List Int) (t : Nat) (ok : Bool), p ≤ len → len - p ≤ f → len' - p ≤ f' → lscan z len f p acc = (l, (t : Int), ok) → (∀ i, i ≤ t → z' i = z i) → t < len → t < len' →
    lscan z' len' f' p acc = (l, (t : Int), ok)
  | 0, f', p, acc, l, t, ok, hp, hf, hf', h, hg, ht, ht' => by
    simp [lscan] at h
    omega
  | f + 1, f', p, acc, l, t, ok, hp, hf, hf', h, hg, ht, ht' => by
    obtain ⟨_, t2, _, hpt, _, h2⟩ := lscan_ge z len (f + 1) p acc hp
    have ett : t2 = t := by rw [h] at h2; simp at h2; omega
    subst ett
    by_cases g : p < len ∧ z p = 32
    · have g' : p < len' ∧ z' p = 32 := ⟨by omega, by rw [hg p hpt]; exact g.2⟩
      obtain ⟨g0, hg0⟩ : ∃ g0, f' = g0 + 1 := ⟨f' - 1, by omega⟩
      subst hg0
      rw [lscan, if_pos g] at h
      rw [lscan, if_pos g']
      rcases parse_two z len (p + 1) (by omega) with ⟨n, u, h1, h2', _, _, hpp⟩ | ⟨u, h1, h2', hpp⟩
      · have hp' : parse z len ((p : Int) + 1) = (n, (u : Int), true) := hpp
        rw [hp'] at h
        simp only [if_true, Int.toNat_natCast] at h
        obtain ⟨_, t3, _, hut, _, h3⟩ := lscan_ge z len f u (acc ++ [n]) h2'
        have e3 : t3 = t2 := by rw [h] at h3; simp at h3; omega
        have hl : parse z' len' ((p : Int) + 1) = (n, (u : Int), true) := parse_local (show p + 1 ≤ len by omega) hpp (fun i hi => hg i (by omega)) (by omega) (by omega)
        rw [hl]
        simp only [if_true, Int.toNat_natCast]
        exact lscan_local f g0 u _ l t2 ok h2' (by omega) (by omega) h hg ht ht'
      · have hp' : parse z len ((p : Int) + 1) = (0, (u : Int), false) := hpp
        rw [hp'] at h
        simp at h
        obtain ⟨rfl, hu, rfl⟩ := h
        have eu : u = t2 := by omega
        subst eu
        have hl : parse z' len' ((p : Int) + 1) = (0, (u : Int), false) := parse_local (show p + 1 ≤ len by omega) hpp (fun i hi => hg i (by omega)) (by omega) (by omega)
        rw [hl]
        simp
    · have e : t2 = p ∧ acc = l ∧ ok = true := by
        rw [lscan, if_neg g] at h
        simp at h
        exact ⟨by omega, h.1, by simpa using h.2.2⟩
      obtain ⟨rfl, rfl, rfl⟩ := e
      refine lscan_stop (by omega) ?_
      rintro ⟨q1, q2⟩
      exact g ⟨ht, by rw [← hg t2 (Nat.le_refl _)]; exact q2⟩
theorem lst_local {z z' : Nat → Int} {len len' a t : Nat} {l : List Int} {ok : Bool} (ha : a ≤ len) (h : lst z len (a : Int) = (l, (t : Int), ok)) (hg : ∀ i, i ≤ t → z' i = z i) (ht : t < len) (ht' : t < len') :
    lst z' len' (a : Int) = (l, (t : Int), ok) := by
  have hat : a ≤ t := by
    obtain ⟨_, t2, _, hpt, _, h2⟩ := lscan_ge z len (len - a) a [] ha
    rw [lst_in ha] at h
    rw [h] at h2
    simp at h2
    omega
  rw [lst_in ha] at h
  rw [lst_in (by omega)]
  exact lscan_local _ _ a [] l t ok ha (Nat.le_refl _) (Nat.le_refl _) h hg ht ht'
end Go.Proofs.YtkinmllflodhaaaGreat.Dig

/- The document's history of bytes, as a plain function, line by line. -/
namespace Go.Proofs.YtkinmllflodhaaaGreat.Hist
open Go.RowKit Go.Proofs.YtkinmllflodhaaaGreat.Dig Go.Proofs.YtkinmllflodhaaaGreat.Mem
set_option linter.unusedVariables false
set_option linter.unusedSimpArgs false

/-- What a line leaves: the history, where the next line begins, an error and its place. -/
structure LineR where
  ts : List TxnM
  nx : Nat
  e : Int
  wh : Int
def isB (z : Nat → Int) (len i : Nat) (x : Int) : Bool := decide (i < len ∧ z i = x)
def opsN (ts : List TxnM) : Nat := (ts.map fun t => t.ops.length).sum
def twinB (ts : List TxnM) (id : Int) : Bool := ts.any fun t => t.id == id
def appB (ts : List TxnM) (k v : Int) : Bool := ts.any fun t => t.ops.any fun o => !o.read && o.key == k && o.value == v
def addOp (ts : List TxnM) (o : OpM) : List TxnM := match ts.getLast? with
  | none => ts
  | some t => ts.dropLast ++ [⟨t.id, t.ab, t.ops ++ [o]⟩]
/-- A transaction's line behind its number. -/
def txnT (z : Nat → Int) (len : Nat) (ts : List TxnM) (n : Int) (tz : Nat) : LineR :=
  if isB z len tz 32 = false then ⟨ts, 0, 4, tz⟩ else
  if isB z len (tz + 1) 97 = false ∧ isB z len (tz + 1) 99 = false then ⟨ts, 0, 4, ((tz + 1 : Nat) : Int)⟩ else
  if isB z len (tz + 2) 10 = false then ⟨ts, 0, 4, ((tz + 2 : Nat) : Int)⟩ else ⟨ts ++ [⟨n, z (tz + 1) == 97, []⟩], tz + 3, 0, 0⟩
def txnS (z : Nat → Int) (len : Nat) (ts : List TxnM) (i : Nat) : LineR :=
  if 1024 ≤ ts.length then ⟨ts, 0, 3, i⟩ else
  if isB z len (i + 1) 32 = false then ⟨ts, 0, 4, ((i + 1 : Nat) : Int)⟩ else
  if (parse z len ((i + 2 : Nat) : Int)).2.2 = false then ⟨ts, 0, 4, (parse z len ((i + 2 : Nat) : Int)).2.1⟩ else
  if twinB ts (parse z len ((i + 2 : Nat) : Int)).1 = true then ⟨ts, 0, 5, ((i + 2 : Nat) : Int)⟩ else
  txnT z len ts (parse z len ((i + 2 : Nat) : Int)).1 (parse z len ((i + 2 : Nat) : Int)).2.1.toNat
/-- A line's end, behind an operation. -/
def endL (z : Nat → Int) (len : Nat) (ts : List TxnM) (o : OpM) (tz : Nat) : LineR :=
  if isB z len tz 10 = false then ⟨ts, 0, 4, tz⟩ else ⟨addOp ts o, tz + 1, 0, 0⟩
/-- A read's line behind its key. -/
def readT (z : Nat → Int) (len : Nat) (ts : List TxnM) (k : Int) (tz : Nat) : LineR :=
  if (lst z len (tz : Int)).2.2 = false then ⟨ts, 0, 4, (lst z len (tz : Int)).2.1⟩ else
  endL z len ts ⟨true, k, 0, (lst z len (tz : Int)).1⟩ (lst z len (tz : Int)).2.1.toNat
/-- An append's line behind its key. -/
def appT (z : Nat → Int) (len : Nat) (ts : List TxnM) (k : Int) (tz : Nat) : LineR :=
  if isB z len tz 32 = false then ⟨ts, 0, 4, tz⟩ else
  if (parse z len ((tz + 1 : Nat) : Int)).2.2 = false then ⟨ts, 0, 4, (parse z len ((tz + 1 : Nat) : Int)).2.1⟩ else
  if appB ts k (parse z len ((tz + 1 : Nat) : Int)).1 = true then ⟨ts, 0, 6, ((tz + 1 : Nat) : Int)⟩ else
  endL z len ts ⟨false, k, (parse z len ((tz + 1 : Nat) : Int)).1, []⟩ (parse z len ((tz + 1 : Nat) : Int)).2.1.toNat
def opS (z : Nat → Int) (len : Nat) (most : Int) (ts : List TxnM) (i : Nat) : LineR :=
  if ts.length = 0 then ⟨ts, 0, 4, i⟩ else
  if most ≤ (opsN ts : Int) then ⟨ts, 0, 3, i⟩ else
  if isB z len (i + 1) 32 = false then ⟨ts, 0, 4, ((i + 1 : Nat) : Int)⟩ else
  if (parse z len ((i + 2 : Nat) : Int)).2.2 = false then ⟨ts, 0, 4, (parse z len ((i + 2 : Nat) : Int)).2.1⟩ else
  if z i = 114 then readT z len ts (parse z len ((i + 2 : Nat) : Int)).1 (parse z len ((i + 2 : Nat) : Int)).2.1.toNat
  else appT z len ts (parse z len ((i + 2 : Nat) : Int)).1 (parse z len ((i + 2 : Nat) : Int)).2.1.toNat
def lineS (z : Nat → Int) (len : Nat) (most : Int) (ts : List TxnM) (i : Nat) : LineR :=
  if z i = 116 then txnS z len ts i else if z i = 97 ∨ z i = 114 then opS z len most ts i else ⟨ts, 0, 4, i⟩
def decL (z : Nat → Int) (len : Nat) (most : Int) : Nat → List TxnM → Nat → List TxnM × Int × Int
  | 0, ts, _ => (ts, 0, 0)
  | f + 1, ts, i => if i < len then (if (lineS z len most ts i).e = 0 then decL z len most f (lineS z len most ts i).ts (lineS z len most ts i).nx else ([], (lineS z len most ts i).e, (lineS z len most ts i).wh)) else (ts, 0, 0)
def decS (z : Nat → Int) (len : Nat) (most : Int) : List TxnM × Int × Int :=
  if most < 0 ∨ 4096 < most then ([], 2, 0) else if 262144 < len then ([], 3, 262144) else decL z len most len [] 0

/-! ### What a line looks at -/
theorem isB_iff {z : Nat → Int} {len i : Nat} {x : Int} : isB z len i x = true ↔ i < len ∧ z i = x := by unfold isB; exact decide_eq_true_iff
theorem isB_no {z : Nat → Int} {len i : Nat} {x : Int} : isB z len i x = false ↔ ¬ (i < len ∧ z i = x) := by unfold isB; exact decide_eq_false_iff_not
theorem isB_same {z z' : Nat → Int} {len len' i : Nat} {x : Int} (h : i < len) (h' : i < len') (e : z' i = z i) : isB z' len' i x = isB z len i x := by
  unfold isB; rw [e]; simp [h, h']

/-- A line, from i on: it ends well, behind a byte 10, the only one; or with an error, at a place that is not ahead of it. Either way it looks no further. -/
def Good (f : (Nat → Int) → Nat → LineR) (z : Nat → Int) (len : Nat) (ts : List TxnM) (i : Nat) : Prop :=
  ((f z len).e = 0 ∧ i < (f z len).nx ∧ (f z len).nx ≤ len ∧ z ((f z len).nx - 1) = 10 ∧ (∀ j, i ≤ j → j + 1 < (f z len).nx → z j ≠ 10) ∧ ts.length ≤ (f z len).ts.length ∧ opsN ts ≤ opsN (f z len).ts ∧
    (f z len).wh = 0 ∧ ∀ (z' : Nat → Int) (len' : Nat), (f z len).nx ≤ len' → (∀ j, j < (f z len).nx → z' j = z j) → f z' len' = f z len) ∨
  ((f z len).e ≠ 0 ∧ ∃ w : Nat, (f z len).wh = (w : Int) ∧ i ≤ w ∧ w ≤ len ∧ ((f z len).e = 3 ∨ (f z len).e = 4 ∨ (f z len).e = 5 ∨ (f z len).e = 6) ∧ (w = len → (f z len).e = 4) ∧
    (((f z len).e = 3 ∨ (f z len).e = 4) → w < len → ∀ (z' : Nat → Int) (len' : Nat), w < len' → (∀ j, j ≤ w → z' j = z j) → f z' len' = f z len))
theorem Good.bad {f : (Nat → Int) → Nat → LineR} {z : Nat → Int} {len : Nat} {ts : List TxnM} {i : Nat} {e : Int} {w : Nat} (h : f z len = ⟨ts, 0, e, (w : Int)⟩) (he : e = 3 ∨ e = 4 ∨ e = 5 ∨ e = 6) (hi : i ≤ w) (hw : w ≤ len) (hwl : w = len → e = 4)
    (hl : (e = 3 ∨ e = 4) → w < len → ∀ (z' : Nat → Int) (len' : Nat), w < len' → (∀ j, j ≤ w → z' j = z j) → f z' len' = ⟨ts, 0, e, (w : Int)⟩) : Good f z len ts i := by
  refine .inr ⟨by rw [h]; show e ≠ 0; omega, w, by rw [h], hi, hw, by rw [h]; exact he, by rw [h]; exact hwl, ?_⟩
  rw [h]
  exact hl
theorem Good.ok {f : (Nat → Int) → Nat → LineR} {z : Nat → Int} {len : Nat} {ts ts' : List TxnM} {i nx : Nat} (h : f z len = ⟨ts', nx, 0, 0⟩) (h1 : i < nx) (h2 : nx ≤ len) (h3 : z (nx - 1) = 10) (h4 : ∀ j, i ≤ j → j + 1 < nx → z j ≠ 10)
    (h5 : ts.length ≤ ts'.length) (h6 : opsN ts ≤ opsN ts') (hl : ∀ (z' : Nat → Int) (len' : Nat), nx ≤ len' → (∀ j, j < nx → z' j = z j) → f z' len' = ⟨ts', nx, 0, 0⟩) : Good f z len ts i := by
  refine .inl ?_
  rw [h]
  exact ⟨rfl, h1, h2, h3, h4, h5, h6, rfl, hl⟩
theorem opsN_app (ts us : List TxnM) : opsN (ts ++ us) = opsN ts + opsN us := by simp [opsN]
theorem addOp_len (ts : List TxnM) (o : OpM) : (addOp ts o).length = ts.length := by
  unfold addOp
  cases h : ts.getLast? with
  | none => rfl
  | some t =>
    have : ts ≠ [] := by intro q; subst q; simp at h
    simp
    have : 0 < ts.length := List.length_pos_iff.2 this
    omega
theorem addOp_ops (ts : List TxnM) (o : OpM) (h : ts ≠ []) : opsN (addOp ts o) = opsN ts + 1 := by
  obtain ⟨us, t, rfl⟩ : ∃ us t, ts = us ++ [t] := ⟨_, _, (List.dropLast_concat_getLast h).symm⟩
  simp [addOp, opsN]
  omega

/-- .. a head that leads to g at a place. -/
theorem Good.head {f g : (Nat → Int) → Nat → LineR} {z : Nat → Int} {len : Nat} {ts : List TxnM} {i tz : Nat} (h : Good g z len ts tz) (hfg : f z len = g z len)
    (hloc : tz < len → ∀ (z' : Nat → Int) (len' : Nat), tz < len' → (∀ j, j ≤ tz → z' j = z j) → f z' len' = g z' len') (hi : i ≤ tz) (hn : ∀ j, i ≤ j → j < tz → z j ≠ 10) : Good f z len ts i := by
  rcases h with ⟨e, h1, h2, h3, h4, h5, h6, h7, hl⟩ | ⟨e, w, h1, h2, h3, h4, h5, hl⟩
  · left
    rw [hfg]
    refine ⟨e, by omega, h2, h3, fun j hj hj2 => ?_, h5, h6, h7, fun z' len' hlen hz => ?_⟩
    · rcases Nat.lt_or_ge j tz with q | q
      · exact hn j hj q
      · exact h4 j q hj2
    · rw [hloc (by omega) z' len' (by omega) (fun j hj => hz j (by omega))]
      exact hl z' len' hlen hz
  · right
    rw [hfg]
    refine ⟨e, w, h1, by omega, h3, h4, h5, fun he hw z' len' hlen hz => ?_⟩
    rw [hloc (by omega) z' len' (by omega) (fun j hj => hz j (by omega))]
    exact hl he hw z' len' hlen hz
theorem parse_no10 {z : Nat → Int} {len a t : Nat} {n : Int} (ha : a ≤ len) (h : parse z len (a : Int) = (n, (t : Int), true)) : ∀ j, a ≤ j → j < t → z j ≠ 10 := by
  rcases parse_spec z len a ha with ⟨k, g1, g2, g3, g4, g5, g6⟩ | ⟨k, g2, g3, g4, g5, g6⟩
  · rw [g6] at h
    simp at h
    intro j hj hjt
    have := dgt_iff.1 (g4 (j - a) (by omega))
    rw [show a + (j - a) = j by omega] at this
    omega
  · rw [g6] at h; simp at h
theorem lscan_no10 (z : Nat → Int) (len : Nat) : ∀ (f p : Nat) (acc m : List Int) (t : Nat), p ≤ len → lscan z len f p acc = (m, (t : Int), true) → ∀ j, p ≤ j → j < t → z j ≠ 10
  | 0, p, acc, m, t, hp, h => by simp [lscan] at h; omega
  | f + 1, p, acc, m, t, hp, h => by
    by_cases g : p < len ∧ z p = 32
    · rw [lscan, if_pos g] at h
      rcases parse_two z len (p + 1) (by omega) with ⟨n, u, h1, h2, _, _, hpp⟩ | ⟨u, h1, h2, hpp⟩
      · have hp' : parse z len ((p : Int) + 1) = (n, (u : Int), true) := hpp
        rw [hp'] at h
        simp only [if_true, Int.toNat_natCast] at h
        intro j hj hjt
        rcases Nat.lt_or_ge j u with q | q
        · rcases Nat.eq_or_lt_of_le hj with e | e
          · subst e; rw [g.2]; decide
          · exact parse_no10 (show p + 1 ≤ len by omega) hpp j e q
        · exact lscan_no10 z len f u _ m t h2 h j q hjt
      · have hp' : parse z len ((p : Int) + 1) = (0, (u : Int), false) := hpp
        rw [hp'] at h
        simp at h
    · rw [lscan, if_neg g] at h
      simp at h
      omega
theorem lst_no10 {z : Nat → Int} {len a t : Nat} {m : List Int} (ha : a ≤ len) (h : lst z len (a : Int) = (m, (t : Int), true)) : ∀ j, a ≤ j → j < t → z j ≠ 10 := by
  rw [lst_in ha] at h
  exact lscan_no10 z len _ _ _ m t ha h
theorem lst_ge {z : Nat → Int} {len a : Nat} (ha : a ≤ len) : ∃ (m : List Int) (t : Nat) (ok : Bool), a ≤ t ∧ t ≤ len ∧ lst z len (a : Int) = (m, (t : Int), ok) := by
  rw [lst_in ha]; exact lscan_ge z len _ _ _ ha

theorem endL_good {z : Nat → Int} {len : Nat} {ts : List TxnM} {o : OpM} {tz : Nat} (hto : tz ≤ len) (hts : ts ≠ []) : Good (fun z len => endL z len ts o tz) z len ts tz := by
  by_cases h : isB z len tz 10 = false
  · refine Good.bad (e := 4) (w := tz) (if_pos h) (by omega) (Nat.le_refl _) hto (fun _ => rfl) (fun _ hw z' len' hw' hz => ?_)
    show endL z' len' ts o tz = _
    unfold endL
    rw [isB_same hw hw' (hz tz (Nat.le_refl _)), if_pos h]
  · have hb := isB_iff.1 (by simpa using h)
    refine Good.ok (if_neg h) (by omega) (by omega) hb.2 (fun j hj hj2 => by omega) (by rw [addOp_len]; exact Nat.le_refl _) (by rw [addOp_ops _ _ hts]; omega) (fun z' len' hn hz => ?_)
    show endL z' len' ts o tz = _
    unfold endL
    rw [isB_same hb.1 (by omega) (hz tz (by omega)), if_neg h]
theorem txnT_good {z : Nat → Int} {len : Nat} {ts : List TxnM} {n : Int} {tz : Nat} (hto : tz ≤ len) : Good (fun z len => txnT z len ts n tz) z len ts tz := by
  by_cases h1 : isB z len tz 32 = false
  · refine Good.bad (e := 4) (w := tz) (if_pos h1) (by omega) (Nat.le_refl _) hto (fun _ => rfl) (fun _ hw z' len' hw' hz => ?_)
    show txnT z' len' ts n tz = _
    unfold txnT
    rw [isB_same hw hw' (hz tz (Nat.le_refl _)), if_pos h1]
  · have b1 := isB_iff.1 (by simpa using h1)
    have e1 : ∀ (z' : Nat → Int) (len' : Nat), tz < len' → (∀ j, j ≤ tz → z' j = z j) → isB z' len' tz 32 = isB z len tz 32 := fun z' len' hl hz => isB_same b1.1 hl (hz tz (Nat.le_refl _))
    by_cases h2 : isB z len (tz + 1) 97 = false ∧ isB z len (tz + 1) 99 = false
    · refine Good.bad (e := 4) (w := tz + 1) (by show txnT z len ts n tz = _; unfold txnT; rw [if_neg h1, if_pos h2]) (by omega) (by omega) (by omega) (fun _ => rfl) (fun _ hw z' len' hw' hz => ?_)
      show txnT z' len' ts n tz = _
      unfold txnT
      rw [e1 z' len' (by omega) (fun j hj => hz j (by omega)), if_neg h1, isB_same hw hw' (hz _ (Nat.le_refl _)), isB_same hw hw' (hz _ (Nat.le_refl _)), if_pos h2]
    · have b2 : tz + 1 < len := by
        rcases Nat.lt_or_ge (tz + 1) len with q | q
        · exact q
        · exact absurd ⟨isB_no.2 (by omega), isB_no.2 (by omega)⟩ h2
      have e2 : ∀ (z' : Nat → Int) (len' : Nat) (x : Int), tz + 1 < len' → (∀ j, j ≤ tz + 1 → z' j = z j) → isB z' len' (tz + 1) x = isB z len (tz + 1) x := fun z' len' x hl hz => isB_same b2 hl (hz _ (Nat.le_refl _))
      by_cases h3 : isB z len (tz + 2) 10 = false
      · refine Good.bad (e := 4) (w := tz + 2) (by show txnT z len ts n tz = _; unfold txnT; rw [if_neg h1, if_neg h2, if_pos h3]) (by omega) (by omega) (by omega) (fun _ => rfl) (fun _ hw z' len' hw' hz => ?_)
        show txnT z' len' ts n tz = _
        unfold txnT
        rw [e1 z' len' (by omega) (fun j hj => hz j (by omega)), if_neg h1, e2 z' len' _ (by omega) (fun j hj => hz j (by omega)), e2 z' len' _ (by omega) (fun j hj => hz j (by omega)), if_neg h2, isB_same hw hw' (hz _ (Nat.le_refl _)), if_pos h3]
      · have b3 := isB_iff.1 (by simpa using h3)
        refine Good.ok (ts' := ts ++ [⟨n, z (tz + 1) == 97, []⟩]) (nx := tz + 3) (by show txnT z len ts n tz = _; unfold txnT; rw [if_neg h1, if_neg h2, if_neg h3]) (by omega) (by omega) b3.2 (fun j hj hj2 => ?_) (by simp) (by rw [opsN_app]; omega) (fun z' len' hn hz => ?_)
        · rcases (show j = tz ∨ j = tz + 1 by omega) with rfl | rfl
          · rw [b1.2]; decide
          · intro q
            exact h2 ⟨isB_no.2 (by rw [q]; omega), isB_no.2 (by rw [q]; omega)⟩
        · show txnT z' len' ts n tz = _
          unfold txnT
          rw [e1 z' len' (by omega) (fun j hj => hz j (by omega)), if_neg h1, e2 z' len' _ (by omega) (fun j hj => hz j (by omega)), e2 z' len' _ (by omega) (fun j hj => hz j (by omega)), if_neg h2, isB_same b3.1 (by omega) (hz _ (by omega)), if_neg h3, hz (tz + 1) (by omega)]
theorem readT_good {z : Nat → Int} {len : Nat} {ts : List TxnM} {k : Int} {tz : Nat} (hto : tz ≤ len) (hts : ts ≠ []) : Good (fun z len => readT z len ts k tz) z len ts tz := by
  obtain ⟨m, t, ok, h1, h2, hp⟩ := lst_ge (z := z) hto
  cases ok with
  | false =>
    refine Good.bad (e := 4) (w := t) (by show readT z len ts k tz = _; unfold readT; rw [hp]; simp) (by omega) h1 h2 (fun _ => rfl) (fun _ hw z' len' hw' hz => ?_)
    show readT z' len' ts k tz = _
    unfold readT
    rw [lst_local hto hp hz hw hw']
    simp
  | true =>
    refine Good.head (g := fun z len => endL z len ts ⟨true, k, 0, m⟩ t) (endL_good h2 hts) (by show readT z len ts k tz = _; unfold readT; rw [hp]; simp) (fun hw z' len' hw' hz => ?_) h1 (lst_no10 hto hp)
    show readT z' len' ts k tz = _
    unfold readT
    rw [lst_local hto hp hz hw hw']
    simp
theorem appT_good {z : Nat → Int} {len : Nat} {ts : List TxnM} {k : Int} {tz : Nat} (hto : tz ≤ len) (hts : ts ≠ []) : Good (fun z len => appT z len ts k tz) z len ts tz := by
  by_cases h1 : isB z len tz 32 = false
  · refine Good.bad (e := 4) (w := tz) (if_pos h1) (by omega) (Nat.le_refl _) hto (fun _ => rfl) (fun _ hw z' len' hw' hz => ?_)
    show appT z' len' ts k tz = _
    unfold appT
    rw [isB_same hw hw' (hz tz (Nat.le_refl _)), if_pos h1]
  · have b1 := isB_iff.1 (by simpa using h1)
    have e1 : ∀ (z' : Nat → Int) (len' : Nat), tz < len' → (∀ j, j ≤ tz → z' j = z j) → isB z' len' tz 32 = isB z len tz 32 := fun z' len' hl hz => isB_same b1.1 hl (hz tz (Nat.le_refl _))
    rcases parse_two z len (tz + 1) (by omega) with ⟨n, t, g1, g2, _, _, hp⟩ | ⟨t, g1, g2, hp⟩
    · by_cases ha : appB ts k n = true
      · refine Good.bad (e := 6) (w := tz + 1) (by show appT z len ts k tz = _; unfold appT; rw [if_neg h1, hp]; simp [ha]) (by omega) (by omega) (by omega) (fun q => by omega) (fun q => by omega)
      · refine Good.head (g := fun z len => endL z len ts ⟨false, k, n, []⟩ t) (endL_good g2 hts) (by show appT z len ts k tz = _; unfold appT; rw [if_neg h1, hp]; simp [ha]) (fun hw z' len' hw' hz => ?_) (by omega) (fun j hj hjt => ?_)
        · show appT z' len' ts k tz = _
          unfold appT
          rw [e1 z' len' (by omega) (fun j hj => hz j (by omega)), if_neg h1, parse_local (show tz + 1 ≤ len by omega) hp hz hw hw']
          simp [ha]
        · rcases Nat.eq_or_lt_of_le hj with e | e
          · subst e; rw [b1.2]; decide
          · exact parse_no10 (show tz + 1 ≤ len by omega) hp j e hjt
    · refine Good.bad (e := 4) (w := t) (by show appT z len ts k tz = _; unfold appT; rw [if_neg h1, hp]; simp) (by omega) (by omega) g2 (fun _ => rfl) (fun _ hw z' len' hw' hz => ?_)
      show appT z' len' ts k tz = _
      unfold appT
      rw [e1 z' len' (by omega) (fun j hj => hz j (by omega)), if_neg h1, parse_local (show tz + 1 ≤ len by omega) hp hz hw hw']
      simp
theorem txnS_good {z : Nat → Int} {len : Nat} {ts : List TxnM} {i : Nat} (hi : i < len) (hz0 : z i ≠ 10) : Good (fun z len => txnS z len ts i) z len ts i := by
  by_cases h0 : 1024 ≤ ts.length
  · refine Good.bad (e := 3) (w := i) (if_pos h0) (by omega) (Nat.le_refl _) (by omega) (fun q => by omega) (fun _ hw z' len' hw' hz => if_pos h0)
  by_cases h1 : isB z len (i + 1) 32 = false
  · refine Good.bad (e := 4) (w := i + 1) (by show txnS z len ts i = _; unfold txnS; rw [if_neg h0, if_pos h1]) (by omega) (by omega) (by omega) (fun _ => rfl) (fun _ hw z' len' hw' hz => ?_)
    show txnS z' len' ts i = _
    unfold txnS
    rw [if_neg h0, isB_same hw hw' (hz _ (Nat.le_refl _)), if_pos h1]
  have b1 := isB_iff.1 (by simpa using h1)
  have e1 : ∀ (z' : Nat → Int) (len' : Nat), i + 1 < len' → (∀ j, j ≤ i + 1 → z' j = z j) → isB z' len' (i + 1) 32 = isB z len (i + 1) 32 := fun z' len' hl hz => isB_same b1.1 hl (hz _ (Nat.le_refl _))
  rcases parse_two z len (i + 2) (by omega) with ⟨n, t, g1, g2, _, _, hp⟩ | ⟨t, g1, g2, hp⟩
  · by_cases ha : twinB ts n = true
    · refine Good.bad (e := 5) (w := i + 2) (by show txnS z len ts i = _; unfold txnS; rw [if_neg h0, if_neg h1, hp]; simp [ha]) (by omega) (by omega) (by omega) (fun q => by omega) (fun q => by omega)
    · refine Good.head (g := fun z len => txnT z len ts n t) (txnT_good g2) (by show txnS z len ts i = _; unfold txnS; rw [if_neg h0, if_neg h1, hp]; simp [ha]) (fun hw z' len' hw' hz => ?_) (by omega) (fun j hj hjt => ?_)
      · show txnS z' len' ts i = _
        unfold txnS
        rw [if_neg h0, e1 z' len' (by omega) (fun j hj => hz j (by omega)), if_neg h1, parse_local (show i + 2 ≤ len by omega) hp hz hw hw']
        simp [ha]
      · rcases (show j = i ∨ j = i + 1 ∨ i + 2 ≤ j by omega) with e | e | e
        · subst e; exact hz0
        · subst e; rw [b1.2]; decide
        · exact parse_no10 (show i + 2 ≤ len by omega) hp j e hjt
  · refine Good.bad (e := 4) (w := t) (by show txnS z len ts i = _; unfold txnS; rw [if_neg h0, if_neg h1, hp]; simp) (by omega) (by omega) g2 (fun _ => rfl) (fun _ hw z' len' hw' hz => ?_)
    show txnS z' len' ts i = _
    unfold txnS
    rw [if_neg h0, e1 z' len' (by omega) (fun j hj => hz j (by omega)), if_neg h1, parse_local (show i + 2 ≤ len by omega) hp hz hw hw']
    simp
theorem opS_good {z : Nat → Int} {len : Nat} {most : Int} {ts : List TxnM} {i : Nat} (hi : i < len) (hz0 : z i ≠ 10) : Good (fun z len => opS z len most ts i) z len ts i := by
  by_cases h0 : ts.length = 0
  · refine Good.bad (e := 4) (w := i) (if_pos h0) (by omega) (Nat.le_refl _) (by omega) (fun q => by omega) (fun _ hw z' len' hw' hz => if_pos h0)
  have hts : ts ≠ [] := fun q => h0 (by rw [q]; rfl)
  by_cases h3 : most ≤ (opsN ts : Int)
  · refine Good.bad (e := 3) (w := i) (by show opS z len most ts i = _; unfold opS; rw [if_neg h0, if_pos h3]) (by omega) (Nat.le_refl _) (by omega) (fun q => by omega) (fun _ hw z' len' hw' hz => by show opS z' len' most ts i = _; unfold opS; rw [if_neg h0, if_pos h3])
  by_cases h1 : isB z len (i + 1) 32 = false
  · refine Good.bad (e := 4) (w := i + 1) (by show opS z len most ts i = _; unfold opS; rw [if_neg h0, if_neg h3, if_pos h1]) (by omega) (by omega) (by omega) (fun _ => rfl) (fun _ hw z' len' hw' hz => ?_)
    show opS z' len' most ts i = _
    unfold opS
    rw [if_neg h0, if_neg h3, isB_same hw hw' (hz _ (Nat.le_refl _)), if_pos h1]
  have b1 := isB_iff.1 (by simpa using h1)
  have e1 : ∀ (z' : Nat → Int) (len' : Nat), i + 1 < len' → (∀ j, j ≤ i + 1 → z' j = z j) → isB z' len' (i + 1) 32 = isB z len (i + 1) 32 := fun z' len' hl hz => isB_same b1.1 hl (hz _ (Nat.le_refl _))
  rcases parse_two z len (i + 2) (by omega) with ⟨n, t, g1, g2, _, _, hp⟩ | ⟨t, g1, g2, hp⟩
  · have hno : ∀ j, i ≤ j → j < t → z j ≠ 10 := by
      intro j hj hjt
      rcases (show j = i ∨ j = i + 1 ∨ i + 2 ≤ j by omega) with e | e | e
      · subst e; exact hz0
      · subst e; rw [b1.2]; decide
      · exact parse_no10 (show i + 2 ≤ len by omega) hp j e hjt
    by_cases hr : z i = 114
    · refine Good.head (g := fun z len => readT z len ts n t) (readT_good g2 hts) (by show opS z len most ts i = _; unfold opS; rw [if_neg h0, if_neg h3, if_neg h1, hp]; simp [hr]) (fun hw z' len' hw' hz => ?_) (by omega) hno
      show opS z' len' most ts i = _
      unfold opS
      rw [if_neg h0, if_neg h3, e1 z' len' (by omega) (fun j hj => hz j (by omega)), if_neg h1, parse_local (show i + 2 ≤ len by omega) hp hz hw hw', hz i (by omega)]
      simp [hr]
    · refine Good.head (g := fun z len => appT z len ts n t) (appT_good g2 hts) (by show opS z len most ts i = _; unfold opS; rw [if_neg h0, if_neg h3, if_neg h1, hp]; simp [hr]) (fun hw z' len' hw' hz => ?_) (by omega) hno
      show opS z' len' most ts i = _
      unfold opS
      rw [if_neg h0, if_neg h3, e1 z' len' (by omega) (fun j hj => hz j (by omega)), if_neg h1, parse_local (show i + 2 ≤ len by omega) hp hz hw hw', hz i (by omega)]
      simp [hr]
  · refine Good.bad (e := 4) (w := t) (by show opS z len most ts i = _; unfold opS; rw [if_neg h0, if_neg h3, if_neg h1, hp]; simp) (by omega) (by omega) g2 (fun _ => rfl) (fun _ hw z' len' hw' hz => ?_)
    show opS z' len' most ts i = _
    unfold opS
    rw [if_neg h0, if_neg h3, e1 z' len' (by omega) (fun j hj => hz j (by omega)), if_neg h1, parse_local (show i + 2 ≤ len by omega) hp hz hw hw']
    simp
theorem lineS_good {z : Nat → Int} {len : Nat} {most : Int} {ts : List TxnM} {i : Nat} (hi : i < len) : Good (fun z len => lineS z len most ts i) z len ts i := by
  by_cases h1 : z i = 116
  · refine Good.head (g := fun z len => txnS z len ts i) (txnS_good hi (by rw [h1]; decide)) (if_pos h1) (fun _ z' len' _ hz => ?_) (Nat.le_refl _) (fun j hj hj2 => by omega)
    exact if_pos (by rw [hz i (Nat.le_refl _)]; exact h1)
  by_cases h2 : z i = 97 ∨ z i = 114
  · refine Good.head (g := fun z len => opS z len most ts i) (opS_good hi (by rcases h2 with q | q <;> rw [q] <;> decide)) (by show lineS z len most ts i = _; unfold lineS; rw [if_neg h1, if_pos h2]) (fun _ z' len' _ hz => ?_) (Nat.le_refl _) (fun j hj hj2 => by omega)
    show lineS z' len' most ts i = _
    unfold lineS
    rw [hz i (Nat.le_refl _), if_neg h1, if_pos h2]
  · refine Good.bad (e := 4) (w := i) (by show lineS z len most ts i = _; unfold lineS; rw [if_neg h1, if_neg h2]) (by omega) (Nat.le_refl _) (by omega) (fun _ => rfl) (fun _ hw z' len' hw' hz => ?_)
    show lineS z' len' most ts i = _
    unfold lineS
    rw [hz i (Nat.le_refl _), if_neg h1, if_neg h2]

/-! ### All lines -/
theorem decL_done {z : Nat → Int} {len : Nat} {most : Int} {f : Nat} {ts : List TxnM} {i : Nat} (h : len ≤ i) : decL z len most f ts i = (ts, 0, 0) := by
  cases f with
  | zero => rfl
  | succ f => rw [decL, if_neg (by omega)]
/-- A line's two ends. -/
theorem line_two {z : Nat → Int} {len : Nat} {most : Int} {ts : List TxnM} {i : Nat} (hi : i < len) :
    ((lineS z len most ts i).e = 0 ∧ i < (lineS z len most ts i).nx ∧ (lineS z len most ts i).nx ≤ len ∧ z ((lineS z len most ts i).nx - 1) = 10 ∧ (∀ j, i ≤ j → j + 1 < (lineS z len most ts i).nx → z j ≠ 10) ∧
      ts.length ≤ (lineS z len most ts i).ts.length ∧ opsN ts ≤ opsN (lineS z len most ts i).ts ∧
      ∀ (z' : Nat → Int) (len' : Nat), (lineS z len most ts i).nx ≤ len' → (∀ j, j < (lineS z len most ts i).nx → z' j = z j) → lineS z' len' most ts i = lineS z len most ts i) ∨
    ((lineS z len most ts i).e ≠ 0 ∧ ∃ w : Nat, (lineS z len most ts i).wh = (w : Int) ∧ i ≤ w ∧ w ≤ len ∧ ((lineS z len most ts i).e = 3 ∨ (lineS z len most ts i).e = 4 ∨ (lineS z len most ts i).e = 5 ∨ (lineS z len most ts i).e = 6) ∧ (w = len → (lineS z len most ts i).e = 4) ∧
      (((lineS z len most ts i).e = 3 ∨ (lineS z len most ts i).e = 4) → w < len → ∀ (z' : Nat → Int) (len' : Nat), w < len' → (∀ j, j ≤ w → z' j = z j) → lineS z' len' most ts i = lineS z len most ts i)) := by
  rcases lineS_good (most := most) (ts := ts) (z := z) hi with ⟨e, h1, h2, h3, h4, h5, h6, h7, hl⟩ | h
  · exact .inl ⟨e, h1, h2, h3, h4, h5, h6, hl⟩
  · exact .inr h
/-- Either all lines are right; or there is an error, not ahead of where it was begun, nor past the end; at the end it is that of a wrong form. -/
theorem decL_two {z : Nat → Int} {len : Nat} {most : Int} : ∀ (f : Nat) (ts : List TxnM) (i : Nat),
    ((decL z len most f ts i).2 = (0, 0) ∧ ts.length ≤ (decL z len most f ts i).1.length ∧ opsN ts ≤ opsN (decL z len most f ts i).1) ∨
    ((decL z len most f ts i).1 = [] ∧ (decL z len most f ts i).2.1 ≠ 0 ∧ ∃ w : Nat, (decL z len most f ts i).2.2 = (w : Int) ∧ i ≤ w ∧ w ≤ len)
  | 0, ts, i => .inl ⟨rfl, Nat.le_refl _, Nat.le_refl _⟩
  | f + 1, ts, i => by
    by_cases hi : i < len
    · rw [decL, if_pos hi]
      rcases line_two (most := most) (ts := ts) (z := z) hi with ⟨e, h1, h2, h3, h4, h5, h6, hl⟩ | ⟨e, w, h1, h2, h3, h4, h5, hl⟩
      · rw [if_pos e]
        rcases decL_two (z := z) (len := len) (most := most) f (lineS z len most ts i).ts (lineS z len most ts i).nx with ⟨g1, g2, g3⟩ | ⟨g1, g2, w, g3, g4, g5⟩
        · exact .inl ⟨g1, by omega, by omega⟩
        · exact .inr ⟨g1, g2, w, g3, by omega, g5⟩
      · rw [if_neg e]
        exact .inr ⟨rfl, e, w, h1, h2, h3⟩
    · rw [decL_done (by omega)]
      exact .inl ⟨rfl, Nat.le_refl _, Nat.le_refl _⟩
/-- What is behind a wrong byte decides nothing. -/
theorem decL_behind {z z' : Nat → Int} {len len' : Nat} {most : Int} : ∀ (f f' : Nat) (ts : List TxnM) (i : Nat) (e : Int) (w : Nat), len - i ≤ f → len' - i ≤ f' → decL z len most f ts i = ([], e, (w : Int)) → (e = 3 ∨ e = 4) → w < len → w < len' → (∀ j, j ≤ w → z' j = z j) →
    decL z' len' most f' ts i = ([], e, (w : Int))
  | 0, f', ts, i, e, w, hf, hf', h, he, hw, hw', hz => by
    simp [decL] at h
    omega
  | f + 1, f', ts, i, e, w, hf, hf', h, he, hw, hw', hz => by
    by_cases hi : i < len
    · have hiw : i ≤ w := by
        rcases decL_two (z := z) (len := len) (most := most) (f + 1) ts i with ⟨g1, _, _⟩ | ⟨_, _, w2, g3, g4, _⟩
        · rw [h] at g1; simp at g1; omega
        · rw [h] at g3; simp at g3; omega
      obtain ⟨g0, hg0⟩ : ∃ g0, f' = g0 + 1 := ⟨f' - 1, by omega⟩
      subst hg0
      rw [decL, if_pos hi] at h
      rcases line_two (most := most) (ts := ts) (z := z) hi with ⟨e0, h1, h2, h3, h4, h5, h6, hl⟩ | ⟨e0, w0, h1, h2, h3, h4, h5, hl⟩
      · rw [if_pos e0] at h
        have hnw : (lineS z len most ts i).nx ≤ w := by
          rcases decL_two (z := z) (len := len) (most := most) f (lineS z len most ts i).ts (lineS z len most ts i).nx with ⟨g1, _, _⟩ | ⟨_, _, w2, g3, g4, _⟩
          · rw [h] at g1; simp at g1; omega
          · rw [h] at g3; simp at g3; omega
        have hs := hl z' len' (by omega) (fun j hj => hz j (by omega))
        rw [decL, if_pos (by omega), hs, if_pos e0]
        exact decL_behind f g0 _ _ e w (by omega) (by omega) h he hw hw' hz
      · rw [if_neg e0] at h
        simp at h
        obtain ⟨q1, q2⟩ := h
        rw [h1] at q2
        have ew : w0 = w := by omega
        subst ew
        have hs := hl (by omega) hw z' len' hw' hz
        rw [decL, if_pos (by omega), hs, if_neg e0, q1, h1]
    · rw [decL_done (by omega)] at h
      simp at h
      omega
/-- Bytes without a violation, cut behind any line, have none. -/
theorem decL_cut {z : Nat → Int} {len n : Nat} {most : Int} (hn : n ≤ len) (hend : n = 0 ∨ z (n - 1) = 10) : ∀ (f f' : Nat) (ts : List TxnM) (i : Nat) (us : List TxnM), i ≤ n → len - i ≤ f → n - i ≤ f' → decL z len most f ts i = (us, 0, 0) →
    ∃ vs, decL z n most f' ts i = (vs, 0, 0) ∧ vs.length ≤ us.length ∧ opsN vs ≤ opsN us
  | 0, f', ts, i, us, hi, hf, hf', h => by
    simp [decL] at h
    subst h
    exact ⟨ts, decL_done (by omega), Nat.le_refl _, Nat.le_refl _⟩
  | f + 1, f', ts, i, us, hi, hf, hf', h => by
    by_cases hin : i < n
    · obtain ⟨g0, hg0⟩ : ∃ g0, f' = g0 + 1 := ⟨f' - 1, by omega⟩
      subst hg0
      rw [decL, if_pos (by omega)] at h
      rcases line_two (most := most) (ts := ts) (z := z) (show i < len by omega) with ⟨e0, h1, h2, h3, h4, h5, h6, hl⟩ | ⟨e0, w0, h1, h2, h3, h4, h5, hl⟩
      · rw [if_pos e0] at h
        have hnx : (lineS z len most ts i).nx ≤ n := by
          rcases Nat.lt_or_ge n (lineS z len most ts i).nx with q | q
          · rcases hend with r | r
            · omega
            · exact absurd r (h4 (n - 1) (by omega) (by omega))
          · exact q
        have hs := hl z n hnx (fun j hj => rfl)
        rw [decL, if_pos hin, hs, if_pos e0]
        exact decL_cut hn hend f g0 _ _ us hnx (by omega) (by omega) h
      · rw [if_neg e0] at h
        simp at h
        exact absurd h.2.1 e0
    · have e : n = i := by omega
      subst e
      refine ⟨ts, decL_done (Nat.le_refl _), ?_⟩
      rcases decL_two (z := z) (len := len) (most := most) (f + 1) ts n with ⟨_, g2, g3⟩ | ⟨_, g2, _⟩
      · rw [h] at g2 g3; exact ⟨g2, g3⟩
      · rw [h] at g2; exact absurd rfl g2
end Go.Proofs.YtkinmllflodhaaaGreat.Hist
