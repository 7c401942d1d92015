/- Joined out of the texts EncPlain, EncChk, SetPlain, in that order. -/
import Derived.Test.YtkinmllflodhaaaGreatAll3
import Derived.WalkKit
import Derived.Lib.SlicesCompact
/- A history's bytes, as a plain function: they are read as that history, and what is read has just those bytes. -/
namespace Go.Proofs.YtkinmllflodhaaaGreat.Hist
open Go.RowKit Go.Proofs.YtkinmllflodhaaaGreat.Dig Go.Proofs.YtkinmllflodhaaaGreat.Mem
set_option linter.unusedVariables false
set_option linter.unusedSimpArgs false

def mayN (n : Int) : Prop := 0 ≤ n ∧ n ≤ 2147483647
def lineT (id : Int) (ab : Bool) : List Int := 116 :: 32 :: (txtI id.toNat ++ [32, if ab then 97 else 99, 10])
def lineO (o : OpM) : List Int := if o.read = true then 114 :: 32 :: (txtI o.key.toNat ++ (flat o.list ++ [10])) else 97 :: 32 :: (txtI o.key.toNat ++ (32 :: (txtI o.value.toNat ++ [10])))
def textT (t : TxnM) : List Int := lineT t.id t.ab ++ (t.ops.map lineO).flatten
def textH (ts : List TxnM) : List Int := (ts.map textT).flatten
theorem textH_app (ts us : List TxnM) : textH (ts ++ us) = textH ts ++ textH us := by simp [textH]
theorem textH_txn (ts : List TxnM) (id : Int) (ab : Bool) : textH (ts ++ [⟨id, ab, []⟩]) = textH ts ++ lineT id ab := by simp [textH, textT]
theorem textH_op (ts : List TxnM) (o : OpM) (h : ts ≠ []) : textH (addOp ts o) = textH ts ++ lineO o := by
  obtain ⟨us, t, rfl⟩ : ∃ us t, ts = us ++ [t] := ⟨_, _, (List.dropLast_concat_getLast h).symm⟩
  simp [addOp, textH, textT]
/-- An operation that may be, behind a history. -/
def OpOk (ts : List TxnM) (o : OpM) : Prop := mayN o.key ∧ ((o.read = true ∧ o.value = 0 ∧ ∀ x ∈ o.list, mayN x) ∨ (o.read = false ∧ mayN o.value ∧ o.list = [] ∧ appB ts o.key o.value = false))
/-- A history that may be, but for how many operations and bytes it has. -/
inductive Valid : List TxnM → Prop
  | nil : Valid []
  | txn {ts : List TxnM} {id : Int} {ab : Bool} (h : Valid ts) (hl : ts.length < 1024) (hi : mayN id) (ht : twinB ts id = false) : Valid (ts ++ [⟨id, ab, []⟩])
  | op {ts : List TxnM} {o : OpM} (h : Valid ts) (hts : ts ≠ []) (ho : OpOk ts o) : Valid (addOp ts o)

/-- l stands at i. -/
def Mat (z : Nat → Int) (i : Nat) (l : List Int) : Prop := sub z i l.length = l
theorem Mat.app {z : Nat → Int} {i : Nat} {l m : List Int} : Mat z i (l ++ m) ↔ Mat z i l ∧ Mat z (i + l.length) m := by
  unfold Mat
  rw [List.length_append, sub_add]
  constructor
  · intro h
    exact List.append_inj h (by rw [sub_len])
  · rintro ⟨h1, h2⟩
    rw [h1, h2]
theorem Mat.cons {z : Nat → Int} {i : Nat} {x : Int} {m : List Int} : Mat z i (x :: m) ↔ z i = x ∧ Mat z (i + 1) m := by
  have := Mat.app (z := z) (i := i) (l := [x]) (m := m)
  simp only [List.singleton_append, List.length_singleton] at this
  rw [this]
  simp [Mat, sub]
theorem Mat.nil {z : Nat → Int} {i : Nat} : Mat z i [] := rfl
theorem Mat.get {z : Nat → Int} {i : Nat} {l : List Int} (h : Mat z i l) : ∀ j, j < l.length → z (i + j) = l.getD j 0 := by
  intro j hj
  rw [← sub_get z i l.length j hj, h]
theorem Mat.parse {z : Nat → Int} {len i : Nat} {n : Int} (hn : mayN n) (h : Mat z i (txtI n.toNat)) (hl : i + (txtI n.toNat).length < len) (hd : dgt (z (i + (txtI n.toNat).length)) = false) :
    parse z len (i : Int) = (n, ((i + (txtI n.toNat).length : Nat) : Int), true) := by
  have := parse_back (z := z) (len := len) (a := i) (n := n.toNat) (by unfold mayN at hn; omega) (by omega) h.get (.inr hd)
  rw [this, show ((n.toNat : Nat) : Int) = n by unfold mayN at hn; omega]

/-! ### The bytes of a history are read as that history -/
theorem line_txt {z : Nat → Int} {len i : Nat} {most : Int} {ts : List TxnM} {id : Int} {ab : Bool} (hl : ts.length < 1024) (hi : mayN id) (ht : twinB ts id = false) (hm : Mat z i (lineT id ab)) (hlen : i + (lineT id ab).length ≤ len) :
    lineS z len most ts i = ⟨ts ++ [⟨id, ab, []⟩], i + (lineT id ab).length, 0, 0⟩ := by
  have hL : (lineT id ab).length = (txtI id.toNat).length + 5 := by simp [lineT]
  rw [hL] at hlen ⊢
  unfold lineT at hm
  obtain ⟨z0, hm⟩ := Mat.cons.1 hm
  obtain ⟨z1, hm⟩ := Mat.cons.1 hm
  obtain ⟨h2, hm⟩ := Mat.app.1 hm
  obtain ⟨z3, hm⟩ := Mat.cons.1 hm
  obtain ⟨z4, hm⟩ := Mat.cons.1 hm
  obtain ⟨z5, _⟩ := Mat.cons.1 hm
  have hp := Mat.parse (len := len) hi h2 (by omega) (by rw [z3]; decide)
  rw [show i + 1 + 1 = i + 2 by omega] at hp z3 z4 z5
  obtain ⟨tz, hto⟩ : ∃ tz, i + 2 + (txtI id.toNat).length = tz := ⟨_, rfl⟩
  rw [hto] at hp z3 z4 z5
  rw [show tz + 1 + 1 = tz + 2 by omega] at z5
  have b1 : isB z len (i + 1) 32 = true := isB_iff.2 ⟨by omega, z1⟩
  have b2 : isB z len tz 32 = true := isB_iff.2 ⟨by omega, z3⟩
  have b4 : isB z len (tz + 2) 10 = true := isB_iff.2 ⟨by omega, z5⟩
  have b3 : ¬ (isB z len (tz + 1) 97 = false ∧ isB z len (tz + 1) 99 = false) := by
    rintro ⟨q1, q2⟩
    cases ab
    · exact absurd (isB_iff.2 ⟨by omega, z4⟩ : isB z len (tz + 1) 99 = true) (by simp [q2])
    · exact absurd (isB_iff.2 ⟨by omega, z4⟩ : isB z len (tz + 1) 97 = true) (by simp [q1])
  have hab : (z (tz + 1) == 97) = ab := by rw [z4]; cases ab <;> decide
  unfold lineS
  rw [if_pos z0]
  unfold txnS
  rw [if_neg (by omega), b1, hp, if_neg (by simp), if_neg (by simp), ht, if_neg (by simp)]
  simp only [Int.toNat_natCast]
  unfold txnT
  rw [b2, if_neg (by simp), if_neg b3, b4, if_neg (by simp), hab, show tz + 3 = i + ((txtI id.toNat).length + 5) by omega]
theorem line_op {z : Nat → Int} {len i : Nat} {most : Int} {ts : List TxnM} {o : OpM} (hts : ts ≠ []) (hn : (opsN ts : Int) < most) (ho : OpOk ts o) (hm : Mat z i (lineO o)) (hlen : i + (lineO o).length ≤ len) :
    lineS z len most ts i = ⟨addOp ts o, i + (lineO o).length, 0, 0⟩ := by
  obtain ⟨hk, hr | hr⟩ := ho
  · obtain ⟨r1, r2, r3⟩ := hr
    obtain ⟨rd, key, value, list⟩ := o
    simp only at r1 r2 r3 hk
    subst r1 r2
    have hO : lineO ⟨true, key, 0, list⟩ = 114 :: 32 :: (txtI key.toNat ++ (flat list ++ [10])) := rfl
    rw [hO] at hm hlen ⊢
    have hL : (114 :: 32 :: (txtI key.toNat ++ (flat list ++ [10])) : List Int).length = (txtI key.toNat).length + (flat list).length + 3 := by simp; omega
    rw [hL] at hlen ⊢
    obtain ⟨z0, hm⟩ := Mat.cons.1 hm
    obtain ⟨z1, hm⟩ := Mat.cons.1 hm
    obtain ⟨h2, hm⟩ := Mat.app.1 hm
    obtain ⟨h3, hm⟩ := Mat.app.1 hm
    obtain ⟨z4, _⟩ := Mat.cons.1 hm
    have hd : dgt (z (i + 1 + 1 + (txtI key.toNat).length)) = false := by
      cases list with
      | nil => simp [flat] at z4; rw [z4]; decide
      | cons x l => have := (Mat.cons.1 (show Mat z _ (32 :: (txtI x.toNat ++ flat l)) from h3)).1; rw [this]; decide
    have hp := Mat.parse (len := len) hk h2 (by omega) hd
    rw [show i + 1 + 1 = i + 2 by omega] at hp h3 z4
    obtain ⟨tz, hto⟩ : ∃ tz, i + 2 + (txtI key.toNat).length = tz := ⟨_, rfl⟩
    rw [hto] at hp h3 z4
    have hl : lst z len (tz : Int) = (list, ((tz + (flat list).length : Nat) : Int), true) := lst_back list tz r3 (by omega) h3.get (.inr ⟨by rw [z4]; decide, by rw [z4]; decide⟩)
    have b1 : isB z len (i + 1) 32 = true := isB_iff.2 ⟨by omega, z1⟩
    have b4 : isB z len (tz + (flat list).length) 10 = true := isB_iff.2 ⟨by omega, z4⟩
    unfold lineS
    rw [if_neg (by rw [z0]; decide), if_pos (.inr z0)]
    unfold opS
    rw [if_neg (fun q => hts (List.eq_nil_of_length_eq_zero q)), if_neg (by omega), b1, hp, if_neg (by simp), if_neg (by simp), if_pos z0]
    simp only [Int.toNat_natCast]
    unfold readT
    rw [hl, if_neg (by simp)]
    simp only [Int.toNat_natCast]
    unfold endL
    rw [b4, if_neg (by simp), show tz + (flat list).length + 1 = i + ((txtI key.toNat).length + (flat list).length + 3) by omega]
  · obtain ⟨r1, r2, r3, r4⟩ := hr
    obtain ⟨rd, key, value, list⟩ := o
    simp only at r1 r2 r3 r4 hk
    subst r1 r3
    have hO : lineO ⟨false, key, value, []⟩ = 97 :: 32 :: (txtI key.toNat ++ (32 :: (txtI value.toNat ++ [10]))) := rfl
    rw [hO] at hm hlen ⊢
    have hL : (97 :: 32 :: (txtI key.toNat ++ (32 :: (txtI value.toNat ++ [10]))) : List Int).length = (txtI key.toNat).length + (txtI value.toNat).length + 4 := by simp; omega
    rw [hL] at hlen ⊢
    obtain ⟨z0, hm⟩ := Mat.cons.1 hm
    obtain ⟨z1, hm⟩ := Mat.cons.1 hm
    obtain ⟨h2, hm⟩ := Mat.app.1 hm
    obtain ⟨z3, hm⟩ := Mat.cons.1 hm
    obtain ⟨h3, hm⟩ := Mat.app.1 hm
    obtain ⟨z4, _⟩ := Mat.cons.1 hm
    have hp := Mat.parse (len := len) hk h2 (by omega) (by rw [z3]; decide)
    have hp2 := Mat.parse (len := len) r2 h3 (by omega) (by rw [z4]; decide)
    rw [show i + 1 + 1 = i + 2 by omega] at hp hp2 z3 z4
    obtain ⟨tz, hto⟩ : ∃ tz, i + 2 + (txtI key.toNat).length = tz := ⟨_, rfl⟩
    rw [hto] at hp hp2 z3 z4
    obtain ⟨t2, ht2⟩ : ∃ t2, tz + 1 + (txtI value.toNat).length = t2 := ⟨_, rfl⟩
    rw [ht2] at hp2 z4
    have b1 : isB z len (i + 1) 32 = true := isB_iff.2 ⟨by omega, z1⟩
    have b2 : isB z len tz 32 = true := isB_iff.2 ⟨by omega, z3⟩
    have b4 : isB z len t2 10 = true := isB_iff.2 ⟨by omega, z4⟩
    unfold lineS
    rw [if_neg (by rw [z0]; decide), if_pos (.inl z0)]
    unfold opS
    rw [if_neg (fun q => hts (List.eq_nil_of_length_eq_zero q)), if_neg (by omega), b1, hp, if_neg (by simp), if_neg (by simp), if_neg (by rw [z0]; decide)]
    simp only [Int.toNat_natCast]
    unfold appT
    rw [b2, if_neg (by simp), hp2, if_neg (by simp), r4, if_neg (by simp)]
    simp only [Int.toNat_natCast]
    unfold endL
    rw [b4, if_neg (by simp), show t2 + 1 = i + ((txtI key.toNat).length + (txtI value.toNat).length + 4) by omega]
theorem lineT_pos (id : Int) (ab : Bool) : 0 < (lineT id ab).length := by simp [lineT]
theorem lineO_pos (o : OpM) : 0 < (lineO o).length := by unfold lineO; split <;> simp
theorem decL_text {z : Nat → Int} {len : Nat} {most : Int} {ts : List TxnM} (hv : Valid ts) : (opsN ts : Int) ≤ most → Mat z 0 (textH ts) → (textH ts).length ≤ len → ∀ f, len ≤ f →
    ∃ f', len - (textH ts).length ≤ f' ∧ decL z len most f [] 0 = decL z len most f' ts (textH ts).length := by
  induction hv with
  | nil => intro _ _ _ f hf; exact ⟨f, by omega, rfl⟩
  | @txn ts id ab h hl hi ht ih =>
    intro ho hm hlen f hf
    rw [textH_txn] at hm hlen ⊢
    rw [List.length_append] at hlen ⊢
    rw [opsN_app] at ho
    obtain ⟨m1, m2⟩ := Mat.app.1 hm
    rw [Nat.zero_add] at m2
    obtain ⟨f1, g1, g2⟩ := ih (by omega) m1 (by omega) f hf
    have := lineT_pos id ab
    obtain ⟨f2, hf2⟩ : ∃ f2, f1 = f2 + 1 := ⟨f1 - 1, by omega⟩
    subst hf2
    refine ⟨f2, by omega, ?_⟩
    rw [g2, decL, if_pos (by omega), line_txt hl hi ht m2 (by omega), if_pos rfl]
  | @op ts o h hts hok ih =>
    intro ho hm hlen f hf
    rw [textH_op _ _ hts] at hm hlen ⊢
    rw [List.length_append] at hlen ⊢
    rw [addOp_ops _ _ hts] at ho
    obtain ⟨m1, m2⟩ := Mat.app.1 hm
    rw [Nat.zero_add] at m2
    obtain ⟨f1, g1, g2⟩ := ih (by omega) m1 (by omega) f hf
    have := lineO_pos o
    obtain ⟨f2, hf2⟩ : ∃ f2, f1 = f2 + 1 := ⟨f1 - 1, by omega⟩
    subst hf2
    refine ⟨f2, by omega, ?_⟩
    rw [g2, decL, if_pos (by omega), line_op hts (by omega) hok m2 (by omega), if_pos rfl]
/-- A history that may be comes back from its bytes. -/
theorem decS_back {z : Nat → Int} {most : Nat} {ts : List TxnM} (hv : Valid ts) (ho : opsN ts ≤ most) (hm : most ≤ 4096) (hl : (textH ts).length ≤ 262144) (hz : Mat z 0 (textH ts)) : decS z (textH ts).length (most : Int) = (ts, 0, 0) := by
  unfold decS
  rw [if_neg (by omega), if_neg (by omega)]
  obtain ⟨f', _, h⟩ := decL_text (len := (textH ts).length) (most := (most : Int)) hv (by omega) hz (Nat.le_refl _) (textH ts).length (Nat.le_refl _)
  rw [h, decL_done (Nat.le_refl _)]

/-! ### What is read has just those bytes -/
theorem Mat.of_sub {z : Nat → Int} {i t : Nat} {l : List Int} (h : l = sub z i (t - i)) : Mat z i l ∧ l.length = t - i := by
  have hl : l.length = t - i := by rw [h, sub_len]
  exact ⟨by unfold Mat; rw [hl]; exact h.symm, hl⟩
theorem txnS_inv {z : Nat → Int} {len i : Nat} {ts : List TxnM} (hi : i < len) (hz0 : z i = 116) (h : (txnS z len ts i).e = 0) :
    ∃ id ab, (txnS z len ts i).ts = ts ++ [⟨id, ab, []⟩] ∧ ts.length < 1024 ∧ mayN id ∧ twinB ts id = false ∧ Mat z i (lineT id ab) ∧ (txnS z len ts i).nx = i + (lineT id ab).length := by
  by_cases h0 : 1024 ≤ ts.length
  · exfalso; unfold txnS at h; rw [if_pos h0] at h; simp at h
  by_cases h1 : isB z len (i + 1) 32 = false
  · exfalso; unfold txnS at h; rw [if_neg h0, if_pos h1] at h; simp at h
  have b1 := isB_iff.1 (by simpa using h1)
  rcases parse_two z len (i + 2) (by omega) with ⟨n, t, g1, g2, n0, n1, hp⟩ | ⟨t, g1, g2, hp⟩
  · by_cases ha : twinB ts n = true
    · exfalso; unfold txnS at h; rw [if_neg h0, if_neg h1, hp] at h; simp [ha] at h
    · have e : txnS z len ts i = txnT z len ts n t := by unfold txnS; rw [if_neg h0, if_neg h1, hp]; simp [ha]
      rw [e] at h ⊢
      have hx := (parse_text (show i + 2 ≤ len by omega) hp).2.2.2.2
      obtain ⟨m2, l2⟩ := Mat.of_sub hx
      by_cases h2 : isB z len t 32 = false
      · exfalso; unfold txnT at h; rw [if_pos h2] at h; simp at h
      have b2 := isB_iff.1 (by simpa using h2)
      by_cases h3 : isB z len (t + 1) 97 = false ∧ isB z len (t + 1) 99 = false
      · exfalso; unfold txnT at h; rw [if_neg h2, if_pos h3] at h; simp at h
      by_cases h4 : isB z len (t + 2) 10 = false
      · exfalso; unfold txnT at h; rw [if_neg h2, if_neg h3, if_pos h4] at h; simp at h
      have b4 := isB_iff.1 (by simpa using h4)
      have e2 : txnT z len ts n t = ⟨ts ++ [⟨n, z (t + 1) == 97, []⟩], t + 3, 0, 0⟩ := by unfold txnT; rw [if_neg h2, if_neg h3, if_neg h4]
      rw [e2]
      have h5 : z (t + 1) = if (z (t + 1) == 97) = true then 97 else 99 := by
        by_cases q : z (t + 1) = 97
        · simp [q]
        · have q' : (z (t + 1) == 97) = false := by simpa using q
          rw [q']
          by_cases r : isB z len (t + 1) 99 = true
          · exact (isB_iff.1 r).2
          · exact absurd ⟨isB_no.2 (fun w => q w.2), by simpa using r⟩ h3
      refine ⟨n, z (t + 1) == 97, rfl, by omega, ⟨n0, n1⟩, by simpa using ha, ?_, ?_⟩
      · unfold lineT
        refine Mat.cons.2 ⟨hz0, Mat.cons.2 ⟨b1.2, Mat.app.2 ⟨m2, ?_⟩⟩⟩
        rw [l2, show i + 1 + 1 + (t - (i + 2)) = t by omega]
        exact Mat.cons.2 ⟨b2.2, Mat.cons.2 ⟨h5, Mat.cons.2 ⟨b4.2, Mat.nil⟩⟩⟩
      · show t + 3 = _
        simp [lineT, l2]
        omega
  · exfalso; unfold txnS at h; rw [if_neg h0, if_neg h1, hp] at h; simp at h
theorem endL_inv {z : Nat → Int} {len tz : Nat} {ts : List TxnM} {o : OpM} (h : (endL z len ts o tz).e = 0) : endL z len ts o tz = ⟨addOp ts o, tz + 1, 0, 0⟩ ∧ tz < len ∧ z tz = 10 := by
  by_cases h1 : isB z len tz 10 = false
  · exfalso; unfold endL at h; rw [if_pos h1] at h; simp at h
  · have b1 := isB_iff.1 (by simpa using h1)
    exact ⟨by unfold endL; rw [if_neg h1], b1.1, b1.2⟩
theorem opS_inv {z : Nat → Int} {len i : Nat} {most : Int} {ts : List TxnM} (hi : i < len) (hz0 : z i = 97 ∨ z i = 114) (h : (opS z len most ts i).e = 0) :
    ∃ o, (opS z len most ts i).ts = addOp ts o ∧ ts ≠ [] ∧ (opsN ts : Int) < most ∧ OpOk ts o ∧ Mat z i (lineO o) ∧ (opS z len most ts i).nx = i + (lineO o).length := by
  by_cases h0 : ts.length = 0
  · exfalso; unfold opS at h; rw [if_pos h0] at h; simp at h
  have hts : ts ≠ [] := fun q => h0 (by rw [q]; rfl)
  by_cases h3 : most ≤ (opsN ts : Int)
  · exfalso; unfold opS at h; rw [if_neg h0, if_pos h3] at h; simp at h
  by_cases h1 : isB z len (i + 1) 32 = false
  · exfalso; unfold opS at h; rw [if_neg h0, if_neg h3, if_pos h1] at h; simp at h
  have b1 := isB_iff.1 (by simpa using h1)
  rcases parse_two z len (i + 2) (by omega) with ⟨n, t, g1, g2, n0, n1, hp⟩ | ⟨t, g1, g2, hp⟩
  · obtain ⟨m2, l2⟩ := Mat.of_sub (parse_text (show i + 2 ≤ len by omega) hp).2.2.2.2
    by_cases hr : z i = 114
    · have e : opS z len most ts i = readT z len ts n t := by unfold opS; rw [if_neg h0, if_neg h3, if_neg h1, hp]; simp [hr]
      rw [e] at h ⊢
      obtain ⟨m, u, ok, u1, u2, hl⟩ := lst_ge (z := z) g2
      cases ok with
      | true =>
        have e2 : readT z len ts n t = endL z len ts ⟨true, n, 0, m⟩ u := by unfold readT; rw [hl]; simp
        rw [e2] at h ⊢
        obtain ⟨e3, v1, v2⟩ := endL_inv h
        rw [e3]
        obtain ⟨_, _, w3, w4⟩ := lst_text g2 hl
        obtain ⟨m4, l4⟩ := Mat.of_sub w3.symm
        refine ⟨⟨true, n, 0, m⟩, rfl, hts, by omega, ⟨⟨n0, n1⟩, .inl ⟨rfl, rfl, w4⟩⟩, ?_, ?_⟩
        · show Mat z i (114 :: 32 :: (txtI n.toNat ++ (flat m ++ [10])))
          refine Mat.cons.2 ⟨hr, Mat.cons.2 ⟨b1.2, Mat.app.2 ⟨m2, ?_⟩⟩⟩
          rw [l2, show i + 1 + 1 + (t - (i + 2)) = t by omega]
          refine Mat.app.2 ⟨m4, ?_⟩
          rw [l4, show t + (u - t) = u by omega]
          exact Mat.cons.2 ⟨v2, Mat.nil⟩
        · show u + 1 = i + (114 :: 32 :: (txtI n.toNat ++ (flat m ++ [10])) : List Int).length
          simp [l2, l4]
          omega
      | false => exfalso; unfold readT at h; rw [hl] at h; simp at h
    · have e : opS z len most ts i = appT z len ts n t := by unfold opS; rw [if_neg h0, if_neg h3, if_neg h1, hp]; simp [hr]
      rw [e] at h ⊢
      have hz : z i = 97 := hz0.resolve_right hr
      by_cases h2 : isB z len t 32 = false
      · exfalso; unfold appT at h; rw [if_pos h2] at h; simp at h
      have b2 := isB_iff.1 (by simpa using h2)
      rcases parse_two z len (t + 1) (by omega) with ⟨m, u, u1, u2, k0, k1, hp2⟩ | ⟨u, u1, u2, hp2⟩
      · by_cases ha : appB ts n m = true
        · exfalso; unfold appT at h; rw [if_neg h2, hp2] at h; simp [ha] at h
        · have e2 : appT z len ts n t = endL z len ts ⟨false, n, m, []⟩ u := by unfold appT; rw [if_neg h2, hp2]; simp [ha]
          rw [e2] at h ⊢
          obtain ⟨e3, v1, v2⟩ := endL_inv h
          rw [e3]
          obtain ⟨m4, l4⟩ := Mat.of_sub (parse_text (show t + 1 ≤ len by omega) hp2).2.2.2.2
          refine ⟨⟨false, n, m, []⟩, rfl, hts, by omega, ⟨⟨n0, n1⟩, .inr ⟨rfl, ⟨k0, k1⟩, rfl, by simpa using ha⟩⟩, ?_, ?_⟩
          · show Mat z i (97 :: 32 :: (txtI n.toNat ++ (32 :: (txtI m.toNat ++ [10]))))
            refine Mat.cons.2 ⟨hz, Mat.cons.2 ⟨b1.2, Mat.app.2 ⟨m2, ?_⟩⟩⟩
            rw [l2, show i + 1 + 1 + (t - (i + 2)) = t by omega]
            refine Mat.cons.2 ⟨b2.2, Mat.app.2 ⟨m4, ?_⟩⟩
            rw [l4, show t + 1 + (u - (t + 1)) = u by omega]
            exact Mat.cons.2 ⟨v2, Mat.nil⟩
          · show u + 1 = i + (97 :: 32 :: (txtI n.toNat ++ (32 :: (txtI m.toNat ++ [10]))) : List Int).length
            simp [l2, l4]
            omega
      · exfalso; unfold appT at h; rw [if_neg h2, hp2] at h; simp at h
  · exfalso; unfold opS at h; rw [if_neg h0, if_neg h3, if_neg h1, hp] at h; simp at h
theorem decL_inv {z : Nat → Int} {len : Nat} {most : Int} : ∀ (f : Nat) (ts us : List TxnM) (i : Nat), Valid ts → Mat z 0 (textH ts) → (textH ts).length = i → i ≤ len → (opsN ts : Int) ≤ most → len - i ≤ f → decL z len most f ts i = (us, 0, 0) →
    Valid us ∧ Mat z 0 (textH us) ∧ (textH us).length = len ∧ (opsN us : Int) ≤ most
  | 0, ts, us, i, hv, hm, hl, hi, ho, hf, h => by
    simp [decL] at h
    subst h
    exact ⟨hv, hm, by omega, ho⟩
  | f + 1, ts, us, i, hv, hm, hl, hi, ho, hf, h => by
    by_cases hlt : i < len
    · rw [decL, if_pos hlt] at h
      by_cases e0 : (lineS z len most ts i).e = 0
      · rw [if_pos e0] at h
        by_cases h1 : z i = 116
        · have e : lineS z len most ts i = txnS z len ts i := if_pos h1
          rw [e] at e0 h
          obtain ⟨id, ab, q1, q2, q3, q4, q5, q6⟩ := txnS_inv hlt h1 e0
          have hnx : (txnS z len ts i).nx ≤ len := by
            rcases txnS_good (ts := ts) hlt (show z i ≠ 10 by rw [h1]; decide) with ⟨_, _, g, _⟩ | ⟨g, _⟩
            · exact g
            · exact absurd e0 g
          rw [q1] at h
          have htx := textH_txn ts id ab
          refine decL_inv f _ us _ (Valid.txn hv q2 q3 q4) ?_ ?_ hnx ?_ ?_ h
          · rw [htx]
            refine Mat.app.2 ⟨hm, ?_⟩
            rw [hl, Nat.zero_add]; exact q5
          · rw [htx, List.length_append, q6, hl]
          · rw [opsN_app]
            have : opsN [⟨id, ab, []⟩] = 0 := rfl
            omega
          · have := lineT_pos id ab; omega
        · by_cases h2 : z i = 97 ∨ z i = 114
          · have e : lineS z len most ts i = opS z len most ts i := by unfold lineS; rw [if_neg h1, if_pos h2]
            rw [e] at e0 h
            obtain ⟨o, q1, q2, q3, q4, q5, q6⟩ := opS_inv hlt h2 e0
            have hnx : (opS z len most ts i).nx ≤ len := by
              rcases opS_good (ts := ts) (most := most) hlt (show z i ≠ 10 by rcases h2 with q | q <;> rw [q] <;> decide) with ⟨_, _, g, _⟩ | ⟨g, _⟩
              · exact g
              · exact absurd e0 g
            rw [q1] at h
            have htx := textH_op ts o q2
            refine decL_inv f _ us _ (Valid.op hv q2 q4) ?_ ?_ hnx ?_ ?_ h
            · rw [htx]
              refine Mat.app.2 ⟨hm, ?_⟩
              rw [hl, Nat.zero_add]; exact q5
            · rw [htx, List.length_append, q6, hl]
            · rw [addOp_ops _ _ q2]; omega
            · have := lineO_pos o; omega
          · exfalso
            have e : lineS z len most ts i = ⟨ts, 0, 4, i⟩ := by unfold lineS; rw [if_neg h1, if_neg h2]
            rw [e] at e0
            simp at e0
      · rw [if_neg e0] at h
        simp at h
        exact absurd h.2.1 e0
    · rw [decL_done (by omega)] at h
      simp at h
      subst h
      exact ⟨hv, hm, by omega, ho⟩
/-- Bytes without a violation are those of their history, which may be. -/
theorem decS_inv {z : Nat → Int} {len : Nat} {most : Int} {us : List TxnM} (h : decS z len most = (us, 0, 0)) : Valid us ∧ Mat z 0 (textH us) ∧ (textH us).length = len ∧ (opsN us : Int) ≤ most ∧ len ≤ 262144 := by
  unfold decS at h
  by_cases h0 : most < 0 ∨ 4096 < most
  · rw [if_pos h0] at h; simp at h
  by_cases h1 : 262144 < len
  · rw [if_neg h0, if_pos h1] at h; simp at h
  rw [if_neg h0, if_neg h1] at h
  obtain ⟨a, b, c, d⟩ := decL_inv len [] us 0 Valid.nil Mat.nil rfl (Nat.zero_le _) (by show ((0 : Nat) : Int) ≤ most; omega) (by omega) h
  exact ⟨a, b, c, d, by omega⟩
end Go.Proofs.YtkinmllflodhaaaGreat.Hist

/- Which history may be, and its first error, as plain functions; what may be comes back. -/
namespace Go.Proofs.YtkinmllflodhaaaGreat.Hist
open Go.RowKit Go.Proofs.YtkinmllflodhaaaGreat.Dig Go.Proofs.YtkinmllflodhaaaGreat.Mem
set_option linter.unusedVariables false
set_option linter.unusedSimpArgs false

def mayB (n : Int) : Bool := decide (0 ≤ n ∧ n ≤ 2147483647)
theorem mayB_iff {n : Int} : mayB n = true ↔ mayN n := by unfold mayB mayN; exact decide_eq_true_iff
theorem mayB_no {n : Int} : mayB n = false ↔ ¬ mayN n := by unfold mayB mayN; exact decide_eq_false_iff_not
def mayOpB (o : OpM) : Bool := if o.read = true then mayB o.key && o.list.all mayB && o.value == 0 else mayB o.key && mayB o.value && o.list.length == 0
/-- An operation's first error, behind a history. -/
def chkO (pre : List TxnM) (o : OpM) : Int := if mayOpB o = false then 2 else if o.read = false ∧ appB pre o.key o.value = true then 6 else 0
def chkOs : List TxnM → List OpM → Int
  | _, [] => 0
  | pre, o :: os => if chkO pre o = 0 then chkOs (addOp pre o) os else chkO pre o
def chkT (pre : List TxnM) (t : TxnM) : Int := if mayB t.id = false then 2 else if twinB pre t.id = true then 5 else chkOs (pre ++ [⟨t.id, t.ab, []⟩]) t.ops
def chkTs : List TxnM → List TxnM → Int
  | _, [] => 0
  | pre, t :: ts => if chkT pre t = 0 then chkTs (pre ++ [t]) ts else chkT pre t
def checkS (ts : List TxnM) : Int := if 1024 < ts.length ∨ 4096 < opsN ts then 3 else if chkTs [] ts ≠ 0 then chkTs [] ts else if 262144 < (textH ts).length then 3 else 0

theorem addOp_at (pre : List TxnM) (t : TxnM) (o : OpM) : addOp (pre ++ [t]) o = pre ++ [⟨t.id, t.ab, t.ops ++ [o]⟩] := by simp [addOp]
theorem chkOs_app : ∀ (os ps : List OpM) (qs : List TxnM) (id : Int) (ab : Bool) (rs : List OpM), chkOs (qs ++ [⟨id, ab, rs⟩]) (os ++ ps) = if chkOs (qs ++ [⟨id, ab, rs⟩]) os = 0 then chkOs (qs ++ [⟨id, ab, rs ++ os⟩]) ps else chkOs (qs ++ [⟨id, ab, rs⟩]) os
  | [], ps, qs, id, ab, rs => by simp [chkOs]
  | o :: os, ps, qs, id, ab, rs => by
    have ih := chkOs_app os ps qs id ab (rs ++ [o])
    rw [List.cons_append, chkOs, chkOs]
    by_cases h : chkO (qs ++ [⟨id, ab, rs⟩]) o = 0
    · rw [if_pos h, if_pos h, addOp_at, ih, List.append_assoc, List.singleton_append]
    · rw [if_neg h, if_neg h, if_neg h]
theorem chkTs_app : ∀ (ts us qs : List TxnM), chkTs qs (ts ++ us) = if chkTs qs ts = 0 then chkTs (qs ++ ts) us else chkTs qs ts
  | [], us, qs => by simp [chkTs]
  | t :: ts, us, qs => by
    rw [List.cons_append, chkTs, chkTs]
    by_cases h : chkT qs t = 0
    · rw [if_pos h, if_pos h, chkTs_app ts us, List.append_assoc, List.singleton_append]
    · rw [if_neg h, if_neg h, if_neg h]
/-- As far as k transactions there is no error. -/
theorem chkTs_next {ts : List TxnM} {k : Nat} (hk : k < ts.length) (h : chkTs [] (ts.take k) = 0) : chkTs [] (ts.take (k + 1)) = chkT (ts.take k) ts[k] := by
  rw [List.take_succ_eq_append_getElem hk, chkTs_app, if_pos h, List.nil_append, chkTs]
  by_cases e : chkT (ts.take k) ts[k] = 0
  · rw [if_pos e, chkTs, e]
  · rw [if_neg e]
theorem chkTs_stop {ts : List TxnM} {k : Nat} {e : Int} (h : chkTs [] (ts.take k) = e) (he : e ≠ 0) : chkTs [] ts = e := by
  have := chkTs_app (ts.take k) (ts.drop k) []
  rw [List.take_append_drop, if_neg (by rw [h]; exact he), h] at this
  exact this
theorem chkOs_next {qs : List TxnM} {id : Int} {ab : Bool} {os : List OpM} {k : Nat} (hk : k < os.length) (h : chkOs (qs ++ [⟨id, ab, []⟩]) (os.take k) = 0) : chkOs (qs ++ [⟨id, ab, []⟩]) (os.take (k + 1)) = chkO (qs ++ [⟨id, ab, os.take k⟩]) os[k] := by
  rw [List.take_succ_eq_append_getElem hk, chkOs_app, if_pos h, List.nil_append, chkOs]
  by_cases e : chkO (qs ++ [⟨id, ab, os.take k⟩]) os[k] = 0
  · rw [if_pos e, chkOs, e]
  · rw [if_neg e]
theorem chkOs_stop {qs : List TxnM} {id : Int} {ab : Bool} {os : List OpM} {k : Nat} {e : Int} (h : chkOs (qs ++ [⟨id, ab, []⟩]) (os.take k) = e) (he : e ≠ 0) : chkOs (qs ++ [⟨id, ab, []⟩]) os = e := by
  have := chkOs_app (os.take k) (os.drop k) qs id ab []
  rw [List.take_append_drop, if_neg (by rw [h]; exact he), h] at this
  exact this

/-! ### No error: it may be -/
theorem mayOp_ok {ts : List TxnM} {o : OpM} : chkO ts o = 0 ↔ OpOk ts o := by
  obtain ⟨r, k, v, l⟩ := o
  unfold chkO OpOk mayOpB
  cases r
  · simp only [Bool.false_eq_true, if_false, false_and, false_or, true_and]
    constructor
    · intro h
      split at h
      · cases h
      · rename_i h1
        split at h
        · cases h
        · rename_i h2
          simp only [Bool.not_eq_false, Bool.and_eq_true, mayB_iff, beq_iff_eq, Bool.not_eq_true] at h1 h2
          exact ⟨h1.1.1, h1.1.2, List.eq_nil_of_length_eq_zero h1.2, h2⟩
    · rintro ⟨h1, h2, h3, h4⟩
      subst h3
      rw [if_neg (by rw [mayB_iff.2 h1, mayB_iff.2 h2]; simp), if_neg (by simp [h4])]
  · simp only [if_true, true_and, Bool.true_eq_false, false_and, or_false]
    constructor
    · intro h
      split at h
      · cases h
      · rename_i h1
        simp only [Bool.not_eq_false, Bool.and_eq_true, mayB_iff, beq_iff_eq, List.all_eq_true] at h1
        exact ⟨h1.1.1, h1.2, h1.1.2⟩
    · rintro ⟨h1, h2, h3⟩
      subst h2
      rw [if_neg (by rw [mayB_iff.2 h1, (List.all_eq_true.2 fun x hx => mayB_iff.2 (h3 x hx) : l.all mayB = true)]; simp)]
      simp
theorem chkOs_valid : ∀ (os : List OpM) (qs : List TxnM) (id : Int) (ab : Bool) (rs : List OpM), Valid (qs ++ [⟨id, ab, rs⟩]) → chkOs (qs ++ [⟨id, ab, rs⟩]) os = 0 → Valid (qs ++ [⟨id, ab, rs ++ os⟩])
  | [], qs, id, ab, rs, hv, _ => by simpa using hv
  | o :: os, qs, id, ab, rs, hv, h => by
    rw [chkOs] at h
    by_cases e : chkO (qs ++ [⟨id, ab, rs⟩]) o = 0
    · rw [if_pos e, addOp_at] at h
      have := chkOs_valid os qs id ab (rs ++ [o]) (by have := Valid.op hv (by simp) (mayOp_ok.1 e); rwa [addOp_at] at this) h
      rwa [List.append_assoc, List.singleton_append] at this
    · rw [if_neg e] at h; exact absurd h e
theorem chkTs_valid : ∀ (ts qs : List TxnM), Valid qs → qs.length + ts.length ≤ 1024 → chkTs qs ts = 0 → Valid (qs ++ ts)
  | [], qs, hv, _, _ => by simpa using hv
  | t :: ts, qs, hv, hl, h => by
    simp at hl
    rw [chkTs] at h
    by_cases e : chkT qs t = 0
    · rw [if_pos e] at h
      have hv2 : Valid (qs ++ [t]) := by
        unfold chkT at e
        by_cases h1 : mayB t.id = false
        · rw [if_pos h1] at e; cases e
        by_cases h2 : twinB qs t.id = true
        · rw [if_neg h1, if_pos h2] at e; cases e
        rw [if_neg h1, if_neg h2] at e
        have := chkOs_valid t.ops qs t.id t.ab [] (Valid.txn hv (by omega) (mayB_iff.1 (by simpa using h1)) (by simpa using h2)) e
        simpa using this
      have := chkTs_valid ts (qs ++ [t]) hv2 (by simp; omega) h
      rwa [List.append_assoc, List.singleton_append] at this
    · rw [if_neg e] at h; exact absurd h e
/-- .. and the other way. -/
theorem valid_chk {ts : List TxnM} (h : Valid ts) : chkTs [] ts = 0 := by
  induction h with
  | nil => rfl
  | @txn ts id ab h hl hi ht ih =>
    rw [chkTs_app, if_pos ih, List.nil_append, chkTs]
    have : chkT ts ⟨id, ab, []⟩ = 0 := by unfold chkT; rw [if_neg (by simp [mayB_iff.2 hi]), if_neg (by simp [ht])]; rfl
    rw [if_pos this, chkTs]
  | @op ts o h hts ho ih =>
    obtain ⟨us, t, rfl⟩ : ∃ us t, ts = us ++ [t] := ⟨_, _, (List.dropLast_concat_getLast hts).symm⟩
    rw [addOp_at]
    rw [chkTs_app] at ih ⊢
    by_cases e : chkTs [] us = 0
    · rw [if_pos e, List.nil_append] at ih ⊢
      have hT : chkT us t = 0 := by
        rw [chkTs] at ih
        by_cases q : chkT us t = 0
        · exact q
        · rw [if_neg q] at ih; exact ih
      rw [chkTs]
      have : chkT us ⟨t.id, t.ab, t.ops ++ [o]⟩ = 0 := by
        unfold chkT at hT ⊢
        by_cases h1 : mayB t.id = false
        · rw [if_pos h1] at hT; cases hT
        by_cases h2 : twinB us t.id = true
        · rw [if_neg h1, if_pos h2] at hT; cases hT
        rw [if_neg h1, if_neg h2] at hT
        rw [if_neg h1, if_neg h2]
        show chkOs (us ++ [⟨t.id, t.ab, []⟩]) (t.ops ++ [o]) = 0
        rw [chkOs_app, if_pos hT, List.nil_append, chkOs, if_pos (mayOp_ok.2 ho), chkOs]
      rw [if_pos this, chkTs]
    · rw [if_neg e] at ih; exact absurd ih e
theorem valid_len {ts : List TxnM} (h : Valid ts) : ts.length ≤ 1024 := by
  induction h with
  | nil => simp
  | txn h hl hi ht ih => simp; omega
  | op h hts ho ih => rw [addOp_len]; exact ih
theorem checkS_ok {ts : List TxnM} (h : checkS ts = 0) : Valid ts ∧ opsN ts ≤ 4096 ∧ (textH ts).length ≤ 262144 ∧ ts.length ≤ 1024 := by
  unfold checkS at h
  by_cases h1 : 1024 < ts.length ∨ 4096 < opsN ts
  · rw [if_pos h1] at h; cases h
  by_cases h2 : chkTs [] ts ≠ 0
  · rw [if_neg h1, if_pos h2] at h; exact absurd h h2
  by_cases h3 : 262144 < (textH ts).length
  · rw [if_neg h1, if_neg h2, if_pos h3] at h; cases h
  have := chkTs_valid ts [] Valid.nil (by simp; omega) (by omega)
  exact ⟨by simpa using this, by omega, by omega, by omega⟩
theorem ok_checkS {ts : List TxnM} (hv : Valid ts) (ho : opsN ts ≤ 4096) (hl : (textH ts).length ≤ 262144) : checkS ts = 0 := by
  have := valid_len hv
  unfold checkS
  rw [if_neg (by omega), if_neg (by rw [valid_chk hv]; simp), if_neg (by omega)]

/-! ### Its text, as bytes -/
def lineT8 (id : Int) (ab : Bool) : List UInt8 := 116 :: 32 :: (txt id.toNat ++ [32, if ab then 97 else 99, 10])
def flat8 (l : List Int) : List UInt8 := (l.map fun x => 32 :: txt x.toNat).flatten
def lineO8 (o : OpM) : List UInt8 := if o.read = true then 114 :: 32 :: (txt o.key.toNat ++ (flat8 o.list ++ [10])) else 97 :: 32 :: (txt o.key.toNat ++ (32 :: (txt o.value.toNat ++ [10])))
def textT8 (t : TxnM) : List UInt8 := lineT8 t.id t.ab ++ (t.ops.map lineO8).flatten
def textH8 (ts : List TxnM) : List UInt8 := (ts.map textT8).flatten
def toI (l : List UInt8) : List Int := l.map fun b => (b.toNat : Int)
theorem toI_len (l : List UInt8) : (toI l).length = l.length := by simp [toI]
theorem flat_toI : ∀ l : List Int, toI (flat8 l) = flat l
  | [] => rfl
  | x :: l => by
    have ih := flat_toI l
    simp only [flat8, List.map_cons, List.flatten_cons, toI, List.map_append] at ih ⊢
    rw [ih]
    rfl
theorem lineT_toI (id : Int) (ab : Bool) : toI (lineT8 id ab) = lineT id ab := by cases ab <;> simp [toI, lineT8, lineT, txtI]
theorem lineO_toI (o : OpM) : toI (lineO8 o) = lineO o := by
  unfold lineO8 lineO
  split
  · rw [← flat_toI]; simp [toI, txtI]
  · simp [toI, txtI]
theorem ops_toI : ∀ os : List OpM, toI (os.map lineO8).flatten = (os.map lineO).flatten
  | [] => rfl
  | o :: os => by
    have ih := ops_toI os
    have h := lineO_toI o
    simp only [List.map_cons, List.flatten_cons, toI, List.map_append] at ih h ⊢
    rw [ih, h]
theorem textT_toI (t : TxnM) : toI (textT8 t) = textT t := by
  have h1 := lineT_toI t.id t.ab
  have h2 := ops_toI t.ops
  simp only [textT8, textT, toI, List.map_append] at h1 h2 ⊢
  rw [h1, h2]
theorem textH_toI : ∀ ts : List TxnM, toI (textH8 ts) = textH ts
  | [] => rfl
  | t :: ts => by
    have ih := textH_toI ts
    have h := textT_toI t
    simp only [textH8, textH, List.map_cons, List.flatten_cons, toI, List.map_append] at ih h ⊢
    rw [ih, h]
theorem textH8_len (ts : List TxnM) : (textH8 ts).length = (textH ts).length := by rw [← textH_toI, toI_len]
/-- All its numbers may be. -/
def MayAll (ts : List TxnM) : Prop := ∀ t ∈ ts, mayN t.id ∧ ∀ o ∈ t.ops, mayOpB o = true
theorem valid_may {ts : List TxnM} (h : Valid ts) : MayAll ts := by
  induction h with
  | nil => intro t ht; cases ht
  | txn h hl hi ht ih =>
    intro u hu
    rcases List.mem_append.1 hu with q | q
    · exact ih u q
    · obtain rfl := List.mem_singleton.1 q
      exact ⟨hi, fun o ho => by cases ho⟩
  | @op ts o h hts ho ih =>
    obtain ⟨us, t, rfl⟩ : ∃ us t, ts = us ++ [t] := ⟨_, _, (List.dropLast_concat_getLast hts).symm⟩
    rw [addOp_at]
    intro u hu
    rcases List.mem_append.1 hu with q | q
    · exact ih u (List.mem_append_left _ q)
    · obtain rfl := List.mem_singleton.1 q
      have ht := ih t (by simp)
      refine ⟨ht.1, fun p hp => ?_⟩
      rcases List.mem_append.1 hp with r | r
      · exact ht.2 p r
      · obtain rfl := List.mem_singleton.1 r
        have := mayOp_ok.2 ho
        unfold chkO at this
        by_cases e : mayOpB p = false
        · rw [if_pos e] at this; cases this
        · simpa using e
theorem mayOp_read {o : OpM} (h : mayOpB o = true) (hr : o.read = true) : mayN o.key ∧ (∀ x ∈ o.list, mayN x) ∧ o.value = 0 := by
  unfold mayOpB at h
  rw [if_pos hr] at h
  simp at h
  exact ⟨mayB_iff.1 h.1.1, fun x hx => mayB_iff.1 (h.1.2 x hx), h.2⟩
theorem mayOp_app {o : OpM} (h : mayOpB o = true) (hr : o.read = false) : mayN o.key ∧ mayN o.value ∧ o.list = [] := by
  unfold mayOpB at h
  rw [if_neg (by simp [hr])] at h
  simp at h
  exact ⟨mayB_iff.1 h.1.1, mayB_iff.1 h.1.2, h.2⟩
end Go.Proofs.YtkinmllflodhaaaGreat.Hist

/- Plain mathematics of sets as rising lists: the set of a list, two sets together, what is in both or in the one alone, and how two lists stand. It imports nothing of the program. -/
namespace Go.Proofs.YtkinmllflodhaaaGreat.Sets
set_option linter.unusedVariables false
set_option linter.unusedSimpArgs false

/-- A strict total order. -/
structure Tot {α : Type} (lt : α → α → Bool) : Prop where
  irr : ∀ x, lt x x = false
  tr : ∀ x y z, lt x y = true → lt y z = true → lt x z = true
  tot : ∀ x y, lt x y = false → lt y x = false → x = y
def ltI (x y : Int) : Bool := decide (x < y)
def ltS (x y : List UInt8) : Bool := decide (x < y)
theorem totI : Tot ltI := ⟨fun x => by simp [ltI], fun x y z h1 h2 => by simp [ltI] at *; omega, fun x y h1 h2 => by simp [ltI] at *; omega⟩
theorem totS : Tot ltS := ⟨fun x => by simp [ltS, List.lt_irrefl], fun x y z h1 h2 => by simp only [ltS, decide_eq_true_eq] at *; exact List.lt_trans h1 h2, fun x y h1 h2 => by
  simp only [ltS, decide_eq_false_iff_not] at *
  exact List.le_antisymm (List.not_lt.1 h2) (List.not_lt.1 h1)⟩

section
variable {α : Type} {lt : α → α → Bool}
def Rising (lt : α → α → Bool) (l : List α) : Prop := l.Pairwise fun x y => lt x y = true
theorem Rising.nil : Rising lt [] := List.Pairwise.nil
theorem rising_cons {x : α} {l : List α} : Rising lt (x :: l) ↔ (∀ y ∈ l, lt x y = true) ∧ Rising lt l := List.pairwise_cons
theorem rising_append {l m : List α} : Rising lt (l ++ m) ↔ Rising lt l ∧ Rising lt m ∧ ∀ x ∈ l, ∀ y ∈ m, lt x y = true := List.pairwise_append
theorem Rising.sub {l m : List α} (h : Rising lt m) (s : l.Sublist m) : Rising lt l := List.Pairwise.sublist s h
theorem Tot.asym (T : Tot lt) {x y : α} (h : lt x y = true) : lt y x = false := by
  cases e : lt y x with
  | false => rfl
  | true => rw [← T.irr x, T.tr x y x h e]
theorem Tot.neq (T : Tot lt) {x y : α} (h : lt x y = true) : x ≠ y := fun e => by subst e; rw [T.irr] at h; cases h
theorem Tot.neg_tr (T : Tot lt) {x y z : α} (h : lt x y = true) (k : lt z y = false) : lt x z = true := by
  cases e : lt y z with
  | true => exact T.tr _ _ _ h e
  | false => rw [← T.tot _ _ e k]; exact h

/-- Two rising lists of the same things are one. -/
theorem rising_eq (T : Tot lt) : ∀ {s t : List α}, Rising lt s → Rising lt t → (∀ x, x ∈ s ↔ x ∈ t) → s = t
  | [], [], _, _, _ => rfl
  | [], y :: t, _, _, h => by have := (h y).2 (by simp); simp at this
  | x :: s, [], _, _, h => by have := (h x).1 (by simp); simp at this
  | x :: s, y :: t, hs, ht, h => by
    obtain ⟨hx, hs'⟩ := rising_cons.1 hs
    obtain ⟨hy, ht'⟩ := rising_cons.1 ht
    have e : x = y := by
      have h1 := (h x).1 (by simp)
      have h2 := (h y).2 (by simp)
      rcases List.mem_cons.1 h1 with e | h1
      · exact e
      rcases List.mem_cons.1 h2 with e | h2
      · exact e.symm
      have a := hy x h1
      rw [T.asym (hx y h2)] at a
      cases a
    subst e
    rw [rising_eq T hs' ht' fun z => ⟨fun hz => ?_, fun hz => ?_⟩]
    · rcases List.mem_cons.1 ((h z).1 (List.mem_cons_of_mem _ hz)) with e | q
      · subst e; exact absurd rfl (T.neq (hx z hz))
      · exact q
    · rcases List.mem_cons.1 ((h z).2 (List.mem_cons_of_mem _ hz)) with e | q
      · subst e; exact absurd rfl (T.neq (hy z hz))
      · exact q

/-- The set of a list. -/
def ins (lt : α → α → Bool) (x : α) : List α → List α
  | [] => [x]
  | y :: l => if lt x y then x :: y :: l else if lt y x then y :: ins lt x l else y :: l
def setL (lt : α → α → Bool) : List α → List α
  | [] => []
  | x :: l => ins lt x (setL lt l)
theorem mem_ins (T : Tot lt) (x : α) : ∀ (l : List α) (z : α), z ∈ ins lt x l ↔ z = x ∨ z ∈ l
  | [], z => by simp [ins]
  | y :: l, z => by
    unfold ins
    cases h1 : lt x y with
    | true => simp
    | false =>
      cases h2 : lt y x with
      | true => simp [mem_ins T x l z]; constructor <;> (intro h; rcases h with h | h | h <;> simp [h])
      | false => have := T.tot x y h1 h2; subst this; simp
theorem rising_ins (T : Tot lt) (x : α) : ∀ {l : List α}, Rising lt l → Rising lt (ins lt x l)
  | [], _ => by simp [ins, Rising]
  | y :: l, h => by
    obtain ⟨hy, hl⟩ := rising_cons.1 h
    unfold ins
    cases h1 : lt x y with
    | true => exact rising_cons.2 ⟨fun z hz => (List.mem_cons.1 hz).elim (fun e => e ▸ h1) (fun q => T.tr _ _ _ h1 (hy z q)), h⟩
    | false =>
      cases h2 : lt y x with
      | true =>
        refine rising_cons.2 ⟨fun z hz => ?_, rising_ins T x hl⟩
        rcases (mem_ins T x l z).1 hz with e | q
        · exact e ▸ h2
        · exact hy z q
      | false => exact h
theorem mem_setL (T : Tot lt) : ∀ (l : List α) (z : α), z ∈ setL lt l ↔ z ∈ l
  | [], z => by simp [setL]
  | x :: l, z => by simp [setL, mem_ins T, mem_setL T l]
theorem rising_setL (T : Tot lt) : ∀ l : List α, Rising lt (setL lt l)
  | [] => Rising.nil
  | x :: l => rising_ins T x (rising_setL T l)
theorem setL_unique (T : Tot lt) {s l : List α} (h : Rising lt s) (k : ∀ x, x ∈ s ↔ x ∈ l) : s = setL lt l := rising_eq T h (rising_setL T l) fun x => by rw [k, mem_setL T]
theorem setL_congr (T : Tot lt) {l m : List α} (k : ∀ x, x ∈ l ↔ x ∈ m) : setL lt l = setL lt m := setL_unique T (rising_setL T l) fun x => by rw [mem_setL T, k]
theorem setL_rising (T : Tot lt) {s : List α} (h : Rising lt s) : setL lt s = s := (setL_unique T h fun _ => Iff.rfl).symm
theorem ins_length (x : α) : ∀ l : List α, (ins lt x l).length ≤ l.length + 1
  | [] => by simp [ins]
  | y :: l => by
    unfold ins
    have := ins_length x l
    split
    · simp
    · split
      · simp; omega
      · simp
theorem setL_length : ∀ l : List α, (setL lt l).length ≤ l.length
  | [] => by simp [setL]
  | x :: l => by have := ins_length (lt := lt) x (setL lt l); have := setL_length l; simp [setL]; omega

/-- Two sets together, as the program goes about it: one thing of the first laid in ahead of what is left of the second. -/
def orIn (lt : α → α → Bool) (x : α) : List α → List α → List α × List α
  | l, [] => (l ++ [x], [])
  | l, r :: rest => if lt r x then orIn lt x (l ++ [r]) rest else if lt x r then (l ++ [x], r :: rest) else (l ++ [x], rest)
def orS (lt : α → α → Bool) (t pre : List α) : List α × List α := pre.foldl (fun p x => orIn lt x p.1 p.2) ([], t)
def orL (lt : α → α → Bool) (s t : List α) : List α := (orS lt t s).1 ++ (orS lt t s).2
theorem orS_snoc (t pre : List α) (x : α) : orS lt t (pre ++ [x]) = orIn lt x (orS lt t pre).1 (orS lt t pre).2 := by simp [orS]
theorem orIn_length (x : α) : ∀ (rest l : List α), (orIn lt x l rest).1.length + (orIn lt x l rest).2.length ≤ l.length + rest.length + 1
  | [], l => by simp [orIn]
  | r :: rest, l => by
    unfold orIn
    have := orIn_length x rest (l ++ [r])
    simp at this
    split
    · simp; omega
    · split <;> simp <;> omega
theorem orS_length (t : List α) : ∀ pre : List α, (orS lt t pre).1.length + (orS lt t pre).2.length ≤ pre.length + t.length := by
  intro pre
  induction h : pre.length generalizing pre with
  | zero => obtain rfl : pre = [] := List.eq_nil_of_length_eq_zero h; simp [orS]
  | succ n ih =>
    rcases List.eq_nil_or_concat pre with rfl | ⟨q, x, rfl⟩
    · simp at h
    · rw [List.concat_eq_append] at h ⊢
      have hq : q.length = n := by simpa using h
      have := ih q hq
      have := orIn_length (lt := lt) x (orS lt t q).2 (orS lt t q).1
      rw [orS_snoc]
      omega
structure OrOk (lt : α → α → Bool) (l rest : List α) : Prop where
  one : Rising lt l
  two : Rising lt rest
  less : ∀ y ∈ l, ∀ z ∈ rest, lt y z = true
theorem orIn_ok (T : Tot lt) (x : α) : ∀ (rest l : List α), OrOk lt l rest → (∀ y ∈ l, lt y x = true) →
    OrOk lt (orIn lt x l rest).1 (orIn lt x l rest).2 ∧ (∀ y ∈ (orIn lt x l rest).1, y = x ∨ lt y x = true) ∧ ∀ z, (z ∈ (orIn lt x l rest).1 ∨ z ∈ (orIn lt x l rest).2) ↔ z = x ∨ z ∈ l ∨ z ∈ rest
  | [], l, h, hx => by
    refine ⟨⟨rising_append.2 ⟨h.one, by simp [Rising], fun y hy z hz => by simp at hz; subst hz; exact hx y hy⟩, Rising.nil, fun y _ z hz => by simp [orIn] at hz⟩, ?_, ?_⟩
    · intro y hy; simp [orIn] at hy; rcases hy with q | q
      · exact .inr (hx y q)
      · exact .inl q
    · intro z; simp [orIn]; constructor <;> (intro q; rcases q with q | q <;> simp [q])
  | r :: rest, l, h, hx => by
    obtain ⟨hr, hrest⟩ := rising_cons.1 h.two
    unfold orIn
    cases h1 : lt r x with
    | true =>
      have := orIn_ok T x rest (l ++ [r]) ⟨rising_append.2 ⟨h.one, by simp [Rising], fun y hy z hz => by simp at hz; subst hz; exact h.less y hy _ (by simp)⟩, hrest, fun y hy z hz => by
        rcases List.mem_append.1 hy with q | q
        · exact h.less y q z (by simp [hz])
        · simp at q; subst q; exact hr z hz⟩ (fun y hy => by
        rcases List.mem_append.1 hy with q | q
        · exact hx y q
        · simp at q; subst q; exact h1)
      simp only [if_true]
      refine ⟨this.1, this.2.1, fun z => ?_⟩
      rw [this.2.2 z]
      simp only [List.mem_append, List.mem_cons, List.not_mem_nil, or_false]
      grind
    | false =>
      have hxr : ∀ z ∈ rest, lt x z = true := fun z hz => by
        cases e : lt x r with
        | true => exact T.tr _ _ _ e (hr z hz)
        | false => rw [T.tot x r e h1]; exact hr z hz
      cases h2 : lt x r with
      | true =>
        simp only [if_true, Bool.false_eq_true, if_false]
        refine ⟨⟨rising_append.2 ⟨h.one, by simp [Rising], fun y hy z hz => by simp at hz; subst hz; exact hx y hy⟩, h.two, fun y hy z hz => ?_⟩, fun y hy => ?_, fun z => ?_⟩
        · have xz : lt x z = true := (List.mem_cons.1 hz).elim (fun e => e ▸ h2) (fun q => hxr z q)
          rcases List.mem_append.1 hy with q | q
          · exact T.tr _ _ _ (hx y q) xz
          · simp at q; subst q; exact xz
        · rcases List.mem_append.1 hy with q | q
          · exact .inr (hx y q)
          · simp at q; exact .inl q
        · simp only [List.mem_append, List.mem_cons, List.not_mem_nil, or_false]
          grind
      | false =>
        have e := T.tot x r h2 h1
        subst e
        simp only [Bool.false_eq_true, if_false]
        refine ⟨⟨rising_append.2 ⟨h.one, by simp [Rising], fun y hy z hz => by simp at hz; subst hz; exact hx y hy⟩, hrest, fun y hy z hz => ?_⟩, fun y hy => ?_, fun z => ?_⟩
        · rcases List.mem_append.1 hy with q | q
          · exact T.tr _ _ _ (hx y q) (hxr z hz)
          · simp at q; subst q; exact hxr z hz
        · rcases List.mem_append.1 hy with q | q
          · exact .inr (hx y q)
          · simp at q; exact .inl q
        · simp only [List.mem_append, List.mem_cons, List.not_mem_nil, or_false]
          grind
theorem orS_ok (T : Tot lt) (t : List α) (ht : Rising lt t) : ∀ (s pre : List α), Rising lt s → OrOk lt (orS lt t pre).1 (orS lt t pre).2 → (∀ y ∈ (orS lt t pre).1, ∀ z ∈ s, lt y z = true) → (∀ z, (z ∈ (orS lt t pre).1 ∨ z ∈ (orS lt t pre).2) ↔ z ∈ pre ∨ z ∈ t) →
    OrOk lt (orS lt t (pre ++ s)).1 (orS lt t (pre ++ s)).2 ∧ ∀ z, (z ∈ (orS lt t (pre ++ s)).1 ∨ z ∈ (orS lt t (pre ++ s)).2) ↔ z ∈ pre ++ s ∨ z ∈ t
  | [], pre, _, h, _, hm => by rw [List.append_nil]; exact ⟨h, hm⟩
  | x :: s, pre, hs, h, hl, hm => by
    obtain ⟨hx, hs'⟩ := rising_cons.1 hs
    obtain ⟨g1, g2, g3⟩ := orIn_ok T x _ _ h (fun y hy => hl y hy x (by simp))
    rw [← orS_snoc] at g1 g2 g3
    have := orS_ok T t ht s (pre ++ [x]) hs' g1 (fun y hy z hz => (g2 y hy).elim (fun e => e ▸ hx z hz) (fun q => T.tr _ _ _ q (hx z hz))) (fun z => by
      rw [g3 z, or_congr Iff.rfl (hm z)]
      simp only [List.mem_append, List.mem_cons, List.not_mem_nil, or_false]
      grind)
    rw [List.append_assoc] at this
    exact this
/-- Two sets, gone through together, are the set of both lists. -/
theorem orL_eq (T : Tot lt) {s t : List α} (hs : Rising lt s) (ht : Rising lt t) : orL lt s t = setL lt (s ++ t) := by
  obtain ⟨g, m⟩ := orS_ok T t ht s [] hs ⟨Rising.nil, ht, fun y hy => by simp [orS] at hy⟩ (fun y hy => by simp [orS] at hy) (fun z => by simp [orS])
  rw [List.nil_append] at g m
  refine setL_unique T (rising_append.2 ⟨g.one, g.two, g.less⟩) fun z => ?_
  rw [orL, List.mem_append, m z, List.mem_append]
/-- A part of a set is a set. -/
theorem rising_filter {s : List α} (h : Rising lt s) (p : α → Bool) : Rising lt (s.filter p) := h.sub List.filter_sublist
/-- What of a set is not below something. -/
theorem drop_count (T : Tot lt) (x : α) : ∀ {s : List α}, Rising lt s → s.drop (s.countP fun y => lt y x) = s.dropWhile fun y => lt y x
  | [], _ => by simp
  | y :: s, h => by
    obtain ⟨hy, hs⟩ := rising_cons.1 h
    cases e : lt y x with
    | true => rw [List.countP_cons_of_pos (by simpa using e), List.drop_succ_cons, drop_count T x hs, List.dropWhile_cons_of_pos (by simpa using e)]
    | false =>
      have h0 : s.countP (fun y => lt y x) = 0 := List.countP_eq_zero.2 fun z hz q => by
        have q' : lt z x = true := q
        have := T.tr _ _ _ (hy z hz) q'
        rw [e] at this; cases this
      rw [List.countP_cons_of_neg (by simp [e]), h0, List.drop_zero, List.dropWhile_cons_of_neg (by simp [e])]
end

section
variable {α : Type} [Inhabited α] [DecidableEq α] {lt : α → α → Bool}
/-- A list in order, of whose neighbours that are alike one stays, is the set of it. -/
theorem compactUpTo_set (T : Tot lt) (d : Array α) (hd : ∀ i j, i ≤ j → j < d.size → lt d[j]! d[i]! = false) : ∀ m, m ≤ d.size →
    Rising lt (Lib.compactUpTo d m) ∧ (∀ x ∈ Lib.compactUpTo d m, ∃ j, j < m ∧ d[j]! = x) ∧ ∀ j, j < m → d[j]! ∈ Lib.compactUpTo d m
  | 0, _ => ⟨by simp [Lib.compactUpTo, Rising], by simp [Lib.compactUpTo], by omega⟩
  | m + 1, hm => by
    obtain ⟨h1, h2, h3⟩ := compactUpTo_set T d hd m (by omega)
    rw [Lib.compactUpTo_succ]
    cases hk : Lib.keeps d m with
    | true =>
      simp only [if_true]
      refine ⟨rising_append.2 ⟨h1, by simp [Rising], fun x hx z hz => ?_⟩, fun x hx => ?_, fun j hj => ?_⟩
      · simp at hz; subst hz
        obtain ⟨j, hj, rfl⟩ := h2 x hx
        have hne : d[m]! ≠ d[m - 1]! := by
          have := of_decide_eq_true hk
          rcases this with q | q
          · omega
          · exact q
        have q1 : lt d[m - 1]! d[m]! = true := by
          cases e : lt d[m - 1]! d[m]! with
          | true => rfl
          | false => exact absurd (T.tot _ _ (hd (m - 1) m (by omega) (by omega)) e) hne
        cases e : lt d[j]! d[m]! with
        | true => rfl
        | false =>
          have := T.neg_tr q1 e
          rw [hd j (m - 1) (by omega) (by omega)] at this
          cases this
      · rcases List.mem_append.1 hx with q | q
        · obtain ⟨j, hj, e⟩ := h2 x q; exact ⟨j, by omega, e⟩
        · simp at q; exact ⟨m, by omega, q.symm⟩
      · by_cases e : j = m
        · subst e; simp
        · exact List.mem_append_left _ (h3 j (by omega))
    | false =>
      simp only [Bool.false_eq_true, if_false, List.append_nil]
      refine ⟨h1, fun x hx => ?_, fun j hj => ?_⟩
      · obtain ⟨j, hj, e⟩ := h2 x hx; exact ⟨j, by omega, e⟩
      · by_cases e : j = m
        · subst e
          have := of_decide_eq_false hk
          have h0 : ¬ j = 0 := fun q => this (.inl q)
          have he : d[j]! = d[j - 1]! := by
            by_cases q : d[j]! = d[j - 1]!
            · exact q
            · exact absurd (.inr q) this
          rw [he]
          exact h3 (j - 1) (by omega)
        · exact h3 j (by omega)
theorem compact_set (T : Tot lt) {zs : List α} (hd : zs.Pairwise fun x y => lt y x = false) : Lib.compact zs = setL lt zs := by
  have hp := List.pairwise_iff_getElem.1 hd
  obtain ⟨h1, h2, h3⟩ := compactUpTo_set T zs.toArray (fun i j hij hj => by
    have hj' : j < zs.length := by simpa using hj
    rcases Nat.lt_or_ge i j with q | q
    · simpa [getElem!_pos, hj', Nat.lt_trans q hj'] using hp i j (by omega) hj' q
    · obtain rfl : i = j := by omega
      exact T.irr _) zs.length (by simp)
  refine setL_unique T h1 fun x => ⟨fun hx => ?_, fun hx => ?_⟩
  · obtain ⟨j, hj, e⟩ := h2 x hx
    rw [← e]
    simp [getElem!_pos, hj]
  · obtain ⟨j, hj, e⟩ := List.getElem_of_mem hx
    have := h3 j hj
    rw [show zs.toArray[j]! = x by simp [getElem!_pos, hj, e]] at this
    exact this
end
/-- The shelf's sort, and one of neighbours that are alike kept, gives the set. -/
theorem sort_set_int (zs : List Int) : Lib.compact (zs.mergeSort fun x y => decide (x ≤ y)) = setL ltI zs := by
  rw [compact_set totI ((List.pairwise_mergeSort (le := fun x y : Int => decide (x ≤ y)) (fun a b c h1 h2 => by simp at *; omega) (fun a b => by simp; omega) zs).imp fun h => by simp [ltI] at *; omega)]
  exact setL_congr totI fun x => List.mem_mergeSort
theorem sort_set_str (zs : List (List UInt8)) : Lib.compact (zs.mergeSort fun x y => decide (x ≤ y)) = setL ltS zs := by
  rw [compact_set totS ((List.pairwise_mergeSort (le := fun x y : List UInt8 => decide (x ≤ y)) (fun a b c h1 h2 => by simp only [decide_eq_true_eq] at *; exact List.le_trans h1 h2) (fun a b => by simp only [Bool.or_eq_true, decide_eq_true_eq]; exact List.le_total a b) zs).imp fun h => by
    simp only [ltS, decide_eq_true_eq, decide_eq_false_iff_not] at *
    exact List.not_lt.2 h)]
  exact setL_congr totS fun x => List.mem_mergeSort

/-- How two numbers, two lists of one length, and two lists stand. -/
def cmpI (x y : Int) : Int := if x < y then -1 else if y < x then 1 else 0
def lexL {α : Type} (lt : α → α → Bool) : List α → List α → Int
  | x :: a, y :: b => if lt x y then -1 else if lt y x then 1 else lexL lt a b
  | _, _ => 0
def cmpL {α : Type} (lt : α → α → Bool) (a b : List α) : Int := if a.length < b.length then -1 else if b.length < a.length then 1 else lexL lt a b
section
variable {α : Type} {lt : α → α → Bool}
theorem lexL_swap (T : Tot lt) : ∀ a b : List α, lexL lt b a = - lexL lt a b
  | [], [] => rfl
  | [], _ :: _ => rfl
  | _ :: _, [] => rfl
  | x :: a, y :: b => by
    unfold lexL
    cases h1 : lt x y with
    | true => simp [T.asym h1]
    | false => cases h2 : lt y x with
      | true => simp
      | false => simpa using lexL_swap T a b
theorem lexL_three : ∀ a b : List α, lexL lt a b = -1 ∨ lexL lt a b = 0 ∨ lexL lt a b = 1
  | [], [] => .inr (.inl rfl)
  | [], _ :: _ => .inr (.inl rfl)
  | _ :: _, [] => .inr (.inl rfl)
  | x :: a, y :: b => by
    unfold lexL
    split
    · exact .inl rfl
    · split
      · exact .inr (.inr rfl)
      · exact lexL_three a b
theorem lexL_self (T : Tot lt) : ∀ a : List α, lexL lt a a = 0
  | [] => rfl
  | x :: a => by unfold lexL; simp [T.irr, lexL_self T a]
theorem lexL_zero (T : Tot lt) : ∀ {a b : List α}, a.length = b.length → lexL lt a b = 0 → a = b
  | [], [], _, _ => rfl
  | [], _ :: _, h, _ => by simp at h
  | _ :: _, [], h, _ => by simp at h
  | x :: a, y :: b, h, k => by
    unfold lexL at k
    cases h1 : lt x y with
    | true => simp [h1] at k
    | false => cases h2 : lt y x with
      | true => simp [h1, h2] at k
      | false =>
        simp [h1, h2] at k
        rw [T.tot x y h1 h2, lexL_zero T (by simpa using h) k]
theorem lexL_tr (T : Tot lt) : ∀ {a b c : List α}, a.length = b.length → b.length = c.length → lexL lt a b ≤ 0 → lexL lt b c ≤ 0 → lexL lt a c ≤ 0
  | [], [], [], _, _, _, _ => by simp [lexL]
  | [], [], _ :: _, _, h, _, _ => by simp at h
  | [], _ :: _, _, h, _, _, _ => by simp at h
  | _ :: _, [], _, h, _, _, _ => by simp at h
  | _ :: _, _ :: _, [], _, h, _, _ => by simp at h
  | x :: a, y :: b, z :: c, h, k, p, q => by
    unfold lexL at p q ⊢
    cases h1 : lt x y with
    | true =>
      cases h3 : lt y z with
      | true => simp [T.tr _ _ _ h1 h3]
      | false => cases h4 : lt z y with
        | true => simp [h3, h4] at q
        | false => rw [← T.tot y z h3 h4]; simp [h1]
    | false => cases h2 : lt y x with
      | true => simp [h1, h2] at p
      | false =>
        have e := T.tot x y h1 h2
        subst e
        simp [h1] at p
        cases h3 : lt x z with
        | true => simp
        | false => cases h4 : lt z x with
          | true => simp [h3, h4] at q
          | false =>
            simp [h3, h4] at q ⊢
            exact lexL_tr T (by simpa using h) (by simpa using k) p q
theorem cmpL_swap (T : Tot lt) (a b : List α) : cmpL lt b a = 0 - cmpL lt a b := by
  unfold cmpL
  have := lexL_swap T a b
  split <;> split <;> omega
theorem cmpL_three (a b : List α) : cmpL lt a b = -1 ∨ cmpL lt a b = 0 ∨ cmpL lt a b = 1 := by
  unfold cmpL
  have := lexL_three (lt := lt) a b
  split
  · exact .inl rfl
  · split
    · exact .inr (.inr rfl)
    · exact this
theorem cmpL_self (T : Tot lt) (a : List α) : cmpL lt a a = 0 := by simp [cmpL, lexL_self T]
theorem cmpL_zero (T : Tot lt) {a b : List α} (h : cmpL lt a b = 0) : a = b := by
  unfold cmpL at h
  split at h
  · cases h
  · split at h
    · cases h
    · exact lexL_zero T (by omega) h
theorem cmpL_tr (T : Tot lt) {a b c : List α} (h : cmpL lt a b ≤ 0) (k : cmpL lt b c ≤ 0) : cmpL lt a c ≤ 0 := by
  unfold cmpL at *
  split at h
  · split at k
    · split <;> omega
    · split at k
      · omega
      · rw [if_pos (by omega)]; decide
  · split at h
    · omega
    · split at k
      · rw [if_pos (by omega)]; decide
      · split at k
        · omega
        · rw [if_neg (by omega), if_neg (by omega)]
          exact lexL_tr T (by omega) (by omega) h k
end
end Go.Proofs.YtkinmllflodhaaaGreat.Sets
