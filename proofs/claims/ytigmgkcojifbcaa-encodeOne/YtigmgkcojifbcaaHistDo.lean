/- What a reader that goes by a cursor does with a line, as a plain function; and that it is the document's line. -/
import Derived.Test.YtigmgkcojifbcaaCurLive
import Derived.Test.YtigmgkcojifbcaaHistPlain
namespace Go.Proofs.Ytigmgkcojifbcaa.Hist
open Go.RowKit Go.Proofs.Ytigmgkcojifbcaa.Dig Go.Proofs.Ytigmgkcojifbcaa.Mem Go.Proofs.Ytigmgkcojifbcaa.Cur
set_option linter.unusedVariables false
set_option linter.unusedSimpArgs false

section
variable (z : Nat → Int) (len : Nat)
def peekP (s : St) : Int × Bool := if s.e = 0 then peekS z len s.at_ else (0, false)
/-- A blank, and a number that no transaction has. -/
def pKey (e : Int) (N : Int → Bool) (s : St) : St × Int :=
  let s1 := byteS z len s 32
  let r := numS z len s1
  (if N r.2 = true then failS r.1 e s1.at_ else r.1, r.2)
def pName (s : St) (ts : List TxnM) : St × Int := pKey z len 5 (twinB ts) s
def pAborted (s : St) : St × Bool := if (peekP z len s).1 = 97 then (byteS z len s 97, true) else (byteS z len s 99, false)
def pTxn (s : St) (ts : List TxnM) : St × List TxnM :=
  if 1024 ≤ ts.length then (failS s 3 s.at_, ts) else
  let n := pName z len (byteS z len s 116) ts
  let a := pAborted z len (byteS z len n.1 32)
  (byteS z len a.1 10, ts ++ [⟨n.2, a.2, []⟩])
def pValue (s : St) (ts : List TxnM) (k : Int) : St × Int := pKey z len 6 (appB ts k) s
def pApp (s : St) (ts : List TxnM) : St × OpM :=
  let k := numS z len (byteS z len (byteS z len s 97) 32)
  let v := pValue z len k.1 ts k.2
  (byteS z len v.1 10, ⟨false, k.2, v.2, []⟩)
def pAppP (V : Int → Int → Bool) (s : St) : St × OpM :=
  let k := numS z len (byteS z len (byteS z len s 97) 32)
  let v := pKey z len 6 (V k.2) k.1
  (byteS z len v.1 10, ⟨false, k.2, v.2, []⟩)
theorem pApp_eq (s : St) (ts : List TxnM) : pApp z len s ts = pAppP z len (appB ts) s := rfl
def pRead (s : St) : St × OpM :=
  let k := numS z len (byteS z len (byteS z len s 114) 32)
  let l := listS z len k.1
  (byteS z len l.1 10, ⟨true, k.2, 0, l.2⟩)
def pLine (most : Int) (x : Int) (s : St) (ts : List TxnM) : St × List TxnM :=
  if x = 116 then pTxn z len s ts else
  if (¬ x = 97 ∧ ¬ x = 114) ∨ ts.length = 0 then (failS s 4 s.at_, ts) else
  if most ≤ (opsN ts : Int) then (failS s 3 s.at_, ts) else
  if x = 97 then ((pApp z len s ts).1, addOp ts (pApp z len s ts).2) else ((pRead z len s).1, addOp ts (pRead z len s).2)
end

section
variable {z : Nat → Int} {len : Nat}
theorem byteS_err {s : St} (h : s.e ≠ 0) (x : Int) : byteS z len s x = s := by unfold byteS; rw [if_neg h]
theorem numS_err {s : St} (h : s.e ≠ 0) : numS z len s = (s, 0) := by unfold numS; rw [if_neg h]
theorem listS_err {s : St} (h : s.e ≠ 0) : listS z len s = (s, []) := by unfold listS; rw [if_neg h]
theorem failS_err {s : St} (h : s.e ≠ 0) (e x : Int) : failS s e x = s := by unfold failS; rw [if_neg (fun q => h q.1)]
theorem ite_err {s : St} (h : s.e ≠ 0) (c : Prop) [Decidable c] (e x : Int) : (if c then failS s e x else s) = s := by split; exact failS_err h e x; rfl
theorem failS_now (i : Nat) {e : Int} (x : Int) (h : e ≠ 0) : failS ⟨i, 0, 0⟩ e x = ⟨i, e, x⟩ := by unfold failS; rw [if_pos ⟨rfl, h⟩]
theorem byteS_yes {i : Nat} {x : Int} (h : isB z len i x = true) : byteS z len ⟨i, 0, 0⟩ x = ⟨i + 1, 0, 0⟩ := by
  have := isB_iff.1 h
  unfold byteS; rw [if_pos rfl, if_pos this]
theorem byteS_not {i : Nat} {x : Int} (h : isB z len i x = false) : byteS z len ⟨i, 0, 0⟩ x = ⟨i, 4, i⟩ := by
  have := isB_no.1 h
  unfold byteS; rw [if_pos rfl, if_neg this, failS_now _ _ (by decide)]
theorem numS_yes {i t : Nat} {n : Int} (h : parse z len (i : Int) = (n, (t : Int), true)) : numS z len ⟨i, 0, 0⟩ = (⟨t, 0, 0⟩, n) := by
  unfold numS; rw [if_pos rfl, h]; simp
theorem numS_not {i t : Nat} (h : parse z len (i : Int) = (0, (t : Int), false)) : numS z len ⟨i, 0, 0⟩ = (⟨i, 4, t⟩, 0) := by
  unfold numS; rw [if_pos rfl, h]; simp [failS]
theorem listS_yes {i t : Nat} {l : List Int} (h : lst z len (i : Int) = (l, (t : Int), true)) : listS z len ⟨i, 0, 0⟩ = (⟨t, 0, 0⟩, l) := by
  unfold listS; rw [if_pos rfl, h]; simp
theorem listS_not {i t : Nat} {l : List Int} (h : lst z len (i : Int) = (l, (t : Int), false)) : listS z len ⟨i, 0, 0⟩ = (⟨i, 4, t⟩, []) := by
  unfold listS; rw [if_pos rfl, h]; simp [failS]
theorem pAborted_err {s : St} (h : s.e ≠ 0) : pAborted z len s = (s, false) := by
  unfold pAborted peekP; rw [if_neg h]; simp [byteS_err h]
theorem pName_err {s : St} (h : s.e ≠ 0) (ts : List TxnM) : (pName z len s ts).1 = s := by
  unfold pName pKey; simp only [byteS_err h, numS_err h]; exact ite_err h _ _ _
theorem pValue_err {s : St} (h : s.e ≠ 0) (ts : List TxnM) (k : Int) : (pValue z len s ts k).1 = s := by
  unfold pValue pKey; simp only [byteS_err h, numS_err h]; exact ite_err h _ _ _

/-- What a line leaves in a reader: no error, and the line's history; or the line's error. -/
def Meets (r : St × List TxnM) (l : LineR) : Prop := (l.e = 0 → r = (⟨l.nx, 0, 0⟩, l.ts)) ∧ (l.e ≠ 0 → r.1.e = l.e ∧ r.1.x = l.wh)
theorem Meets.bad {s : St} {us ts : List TxnM} {n : Nat} {e x : Int} (he : e ≠ 0) (h : s.e = e ∧ s.x = x) : Meets (s, us) ⟨ts, n, e, x⟩ := ⟨fun q => absurd q he, fun _ => h⟩
theorem Meets.ok {us : List TxnM} {n : Nat} : Meets (⟨n, 0, 0⟩, us) ⟨us, n, 0, 0⟩ := ⟨fun _ => rfl, fun q => absurd rfl q⟩

theorem txnT_meets (ts : List TxnM) (n : Int) (tz : Nat) : Meets (byteS z len (pAborted z len (byteS z len ⟨tz, 0, 0⟩ 32)).1 10, ts ++ [⟨n, (pAborted z len (byteS z len ⟨tz, 0, 0⟩ 32)).2, []⟩]) (txnT z len ts n tz) := by
  unfold txnT
  by_cases h1 : isB z len tz 32 = false
  · rw [if_pos h1, byteS_not h1, pAborted_err (by simp), byteS_err (by simp)]
    exact Meets.bad (by decide) ⟨rfl, rfl⟩
  · have h1' : isB z len tz 32 = true := by simpa using h1
    rw [if_neg h1, byteS_yes h1']
    by_cases ha : isB z len (tz + 1) 97 = true
    · have hi := isB_iff.1 ha
      have hp : pAborted z len ⟨tz + 1, 0, 0⟩ = (⟨tz + 2, 0, 0⟩, true) := by
        unfold pAborted peekP
        simp only [if_true]
        rw [peekS_in hi.1, if_pos hi.2, byteS_yes ha]
      rw [if_neg (by simp [ha]), hp]
      by_cases h3 : isB z len (tz + 2) 10 = false
      · rw [if_pos h3]; simp only [byteS_not h3]
        exact Meets.bad (by decide) ⟨rfl, rfl⟩
      · rw [if_neg h3]; simp only [byteS_yes (show isB z len (tz + 2) 10 = true by simpa using h3)]
        rw [show (z (tz + 1) == 97) = true by simp [hi.2]]
        exact Meets.ok
    · have ha' : isB z len (tz + 1) 97 = false := by simpa using ha
      have hno := isB_no.1 ha'
      have hp0 : (peekP z len ⟨tz + 1, 0, 0⟩).1 ≠ 97 := by
        unfold peekP
        simp only [if_true]
        by_cases hl : tz + 1 < len
        · rw [peekS_in hl]; intro q; exact hno ⟨hl, q⟩
        · rw [peekS_out hl]; decide
      have hp : pAborted z len ⟨tz + 1, 0, 0⟩ = (byteS z len ⟨tz + 1, 0, 0⟩ 99, false) := by unfold pAborted; rw [if_neg hp0]
      rw [hp]
      by_cases hc : isB z len (tz + 1) 99 = false
      · rw [if_pos ⟨ha', hc⟩]
        simp only [byteS_not hc]
        rw [byteS_err (by simp)]
        exact Meets.bad (by decide) ⟨rfl, rfl⟩
      · have hc' : isB z len (tz + 1) 99 = true := by simpa using hc
        rw [if_neg (fun q => hc q.2)]
        simp only [byteS_yes hc']
        by_cases h3 : isB z len (tz + 2) 10 = false
        · rw [if_pos h3]; simp only [byteS_not h3]
          exact Meets.bad (by decide) ⟨rfl, rfl⟩
        · rw [if_neg h3]; simp only [byteS_yes (show isB z len (tz + 2) 10 = true by simpa using h3)]
          rw [show (z (tz + 1) == 97) = false by rw [(isB_iff.1 hc').2]; decide]
          exact Meets.ok
theorem rest_err {s : St} (h : s.e ≠ 0) : byteS z len (pAborted z len (byteS z len s 32)).1 10 = s := by rw [byteS_err h, pAborted_err h]; exact byteS_err h 10
theorem txn_meets {ts : List TxnM} {i : Nat} (hi : i < len) (hz : z i = 116) : Meets (pTxn z len ⟨i, 0, 0⟩ ts) (txnS z len ts i) := by
  unfold pTxn txnS
  by_cases h0 : 1024 ≤ ts.length
  · rw [if_pos h0, if_pos h0, failS_now _ _ (by decide)]
    exact Meets.bad (by decide) ⟨rfl, rfl⟩
  rw [if_neg h0, if_neg h0]
  simp only [byteS_yes (isB_iff.2 ⟨hi, hz⟩)]
  by_cases h1 : isB z len (i + 1) 32 = false
  · have hb := byteS_not h1
    have hn : (pName z len ⟨i + 1, 0, 0⟩ ts).1 = ⟨i + 1, 4, ((i + 1 : Nat) : Int)⟩ := by unfold pName pKey; simp only [hb, numS_err (s := ⟨i + 1, 4, ((i + 1 : Nat) : Int)⟩) (by simp)]; exact ite_err (by simp) _ _ _
    rw [if_pos h1, hn, rest_err (by simp)]
    exact Meets.bad (by decide) ⟨rfl, rfl⟩
  have hb := byteS_yes (show isB z len (i + 1) 32 = true by simpa using h1)
  have b1 := isB_iff.1 (show isB z len (i + 1) 32 = true by simpa using h1)
  rw [if_neg h1]
  rcases parse_two z len (i + 2) (by omega) with ⟨n, t, g1, g2, _, _, hp⟩ | ⟨t, g1, g2, hp⟩
  · have hs := numS_yes hp
    rw [hp]
    simp only [Int.toNat_natCast]
    rw [if_neg (by simp)]
    by_cases ha : twinB ts n = true
    · have hn : pName z len ⟨i + 1, 0, 0⟩ ts = (⟨t, 5, ((i + 2 : Nat) : Int)⟩, n) := by unfold pName pKey; simp only [hb, hs, if_pos ha]; rw [failS_now _ _ (by decide)]
      rw [if_pos ha, hn]
      simp only
      rw [rest_err (by simp)]
      exact Meets.bad (by decide) ⟨rfl, rfl⟩
    · have hn : pName z len ⟨i + 1, 0, 0⟩ ts = (⟨t, 0, 0⟩, n) := by unfold pName pKey; simp only [hb, hs, if_neg ha]
      rw [if_neg ha, hn]
      exact txnT_meets ts n t
  · have hs := numS_not hp
    rw [hp, if_pos rfl]
    have hn : (pName z len ⟨i + 1, 0, 0⟩ ts).1 = ⟨i + 2, 4, (t : Int)⟩ := by unfold pName pKey; simp only [hb, hs]; exact ite_err (by simp) _ _ _
    rw [hn, rest_err (by simp)]
    exact Meets.bad (by decide) ⟨rfl, rfl⟩
theorem endL_meets (ts : List TxnM) (o : OpM) (tz : Nat) : Meets (byteS z len ⟨tz, 0, 0⟩ 10, addOp ts o) (endL z len ts o tz) := by
  unfold endL
  by_cases h : isB z len tz 10 = false
  · rw [if_pos h, byteS_not h]
    exact Meets.bad (by decide) ⟨rfl, rfl⟩
  · rw [if_neg h, byteS_yes (show isB z len tz 10 = true by simpa using h)]
    exact Meets.ok
theorem app_meets {ts : List TxnM} {i : Nat} {most : Int} (hi : i < len) (hz : z i = 97) (h0 : ¬ ts.length = 0) (hm : ¬ most ≤ (opsN ts : Int)) : Meets ((pApp z len ⟨i, 0, 0⟩ ts).1, addOp ts (pApp z len ⟨i, 0, 0⟩ ts).2) (opS z len most ts i) := by
  unfold pApp opS
  rw [if_neg h0, if_neg hm]
  simp only [byteS_yes (isB_iff.2 ⟨hi, hz⟩)]
  by_cases h1 : isB z len (i + 1) 32 = false
  · have hb := byteS_not h1
    rw [if_pos h1, hb, numS_err (by simp)]
    simp only
    rw [pValue_err (by simp), byteS_err (by simp)]
    exact Meets.bad (by decide) ⟨rfl, rfl⟩
  have b1 := isB_iff.1 (show isB z len (i + 1) 32 = true by simpa using h1)
  rw [if_neg h1, byteS_yes (show isB z len (i + 1) 32 = true by simpa using h1)]
  rcases parse_two z len (i + 2) (by omega) with ⟨k, t, g1, g2, _, _, hp⟩ | ⟨t, g1, g2, hp⟩
  · have hs := numS_yes hp
    rw [hp, hs]
    simp only [Int.toNat_natCast]
    rw [if_neg (by simp), if_neg (by rw [hz]; decide)]
    unfold appT
    by_cases h2 : isB z len t 32 = false
    · have hv : (pValue z len ⟨t, 0, 0⟩ ts k).1 = ⟨t, 4, (t : Int)⟩ := by unfold pValue pKey; simp only [byteS_not h2, numS_err (s := ⟨t, 4, (t : Int)⟩) (by simp)]; exact ite_err (by simp) _ _ _
      rw [if_pos h2, hv, byteS_err (by simp)]
      exact Meets.bad (by decide) ⟨rfl, rfl⟩
    have h2' : isB z len t 32 = true := by simpa using h2
    have b2 := isB_iff.1 h2'
    rw [if_neg h2]
    rcases parse_two z len (t + 1) (by omega) with ⟨v, u, q1, q2, _, _, hq⟩ | ⟨u, q1, q2, hq⟩
    · have hv := numS_yes hq
      rw [hq]
      simp only [Int.toNat_natCast]
      rw [if_neg (by simp)]
      by_cases ha : appB ts k v = true
      · have hn : pValue z len ⟨t, 0, 0⟩ ts k = (⟨u, 6, ((t + 1 : Nat) : Int)⟩, v) := by unfold pValue pKey; simp only [byteS_yes h2', hv, if_pos ha]; rw [failS_now _ _ (by decide)]
        rw [if_pos ha, hn]
        simp only
        rw [byteS_err (by simp)]
        exact Meets.bad (by decide) ⟨rfl, rfl⟩
      · have hn : pValue z len ⟨t, 0, 0⟩ ts k = (⟨u, 0, 0⟩, v) := by unfold pValue pKey; simp only [byteS_yes h2', hv, if_neg ha]
        rw [if_neg ha, hn]
        exact endL_meets ts _ u
    · have hv := numS_not hq
      have hn : (pValue z len ⟨t, 0, 0⟩ ts k).1 = ⟨t + 1, 4, (u : Int)⟩ := by unfold pValue pKey; simp only [byteS_yes h2', hv]; exact ite_err (by simp) _ _ _
      rw [hq, if_pos rfl, hn, byteS_err (by simp)]
      exact Meets.bad (by decide) ⟨rfl, rfl⟩
  · have hs := numS_not hp
    rw [hp, hs, if_pos rfl]
    simp only
    rw [pValue_err (by simp), byteS_err (by simp)]
    exact Meets.bad (by decide) ⟨rfl, rfl⟩
theorem read_meets {ts : List TxnM} {i : Nat} {most : Int} (hi : i < len) (hz : z i = 114) (h0 : ¬ ts.length = 0) (hm : ¬ most ≤ (opsN ts : Int)) : Meets ((pRead z len ⟨i, 0, 0⟩).1, addOp ts (pRead z len ⟨i, 0, 0⟩).2) (opS z len most ts i) := by
  unfold pRead opS
  rw [if_neg h0, if_neg hm]
  simp only [byteS_yes (isB_iff.2 ⟨hi, hz⟩)]
  by_cases h1 : isB z len (i + 1) 32 = false
  · have hb := byteS_not h1
    rw [if_pos h1, hb, numS_err (by simp)]
    simp only
    rw [listS_err (by simp)]
    simp only
    rw [byteS_err (by simp)]
    exact Meets.bad (by decide) ⟨rfl, rfl⟩
  have b1 := isB_iff.1 (show isB z len (i + 1) 32 = true by simpa using h1)
  rw [if_neg h1, byteS_yes (show isB z len (i + 1) 32 = true by simpa using h1)]
  rcases parse_two z len (i + 2) (by omega) with ⟨k, t, g1, g2, _, _, hp⟩ | ⟨t, g1, g2, hp⟩
  · have hs := numS_yes hp
    rw [hp, hs]
    simp only [Int.toNat_natCast]
    rw [if_neg (by simp), if_pos hz]
    unfold readT
    obtain ⟨m, u, ok, q1, q2, hl⟩ := lst_ge (z := z) g2
    cases ok with
    | false =>
      rw [hl, listS_not hl, if_pos rfl]
      simp only
      rw [byteS_err (by simp)]
      exact Meets.bad (by decide) ⟨rfl, rfl⟩
    | true =>
      rw [hl, listS_yes hl, if_neg (by simp)]
      simp only [Int.toNat_natCast]
      exact endL_meets ts _ u
  · have hs := numS_not hp
    rw [hp, hs, if_pos rfl]
    simp only
    rw [listS_err (by simp)]
    simp only
    rw [byteS_err (by simp)]
    exact Meets.bad (by decide) ⟨rfl, rfl⟩
theorem line_meets {ts : List TxnM} {i : Nat} {most : Int} (hi : i < len) : Meets (pLine z len most (z i) ⟨i, 0, 0⟩ ts) (lineS z len most ts i) := by
  unfold pLine lineS
  by_cases h1 : z i = 116
  · rw [if_pos h1, if_pos h1]; exact txn_meets hi h1
  rw [if_neg h1, if_neg h1]
  by_cases h2 : z i = 97 ∨ z i = 114
  · rw [if_pos h2]
    by_cases h0 : ts.length = 0
    · rw [if_pos (Or.inr h0), failS_now _ _ (by decide)]
      unfold opS
      rw [if_pos h0]
      exact Meets.bad (by decide) ⟨rfl, rfl⟩
    rw [if_neg (by rintro (q | q); exact h2.elim q.1 q.2; exact h0 q)]
    by_cases hm : most ≤ (opsN ts : Int)
    · rw [if_pos hm, failS_now _ _ (by decide)]
      unfold opS
      rw [if_neg h0, if_pos hm]
      exact Meets.bad (by decide) ⟨rfl, rfl⟩
    rw [if_neg hm]
    by_cases h3 : z i = 97
    · rw [if_pos h3]; exact app_meets hi h3 h0 hm
    · rw [if_neg h3]; exact read_meets hi (h2.resolve_left h3) h0 hm
  · rw [if_neg h2, if_pos (Or.inl ⟨fun q => h2 (.inl q), fun q => h2 (.inr q)⟩), failS_now _ _ (by decide)]
    exact Meets.bad (by decide) ⟨rfl, rfl⟩
end
end Go.Proofs.Ytigmgkcojifbcaa.Hist
