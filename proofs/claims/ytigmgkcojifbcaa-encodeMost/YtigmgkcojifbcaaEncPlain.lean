/- A history's bytes, as a plain function: they are read as that history, and what is read has just those bytes. -/
import Derived.Test.YtigmgkcojifbcaaHistPlain
namespace Go.Proofs.Ytigmgkcojifbcaa.Hist
open Go.RowKit Go.Proofs.Ytigmgkcojifbcaa.Dig Go.Proofs.Ytigmgkcojifbcaa.Mem
set_option linter.unusedVariables false
set_option linter.unusedSimpArgs false

def mayN (n : Int) : Prop := 0 ≤ n ∧ n ≤ 2147483647
def lineT (id : Int) (ab : Bool) : List Int := 116 :: 32 :: (txtI id.toNat ++ [32, if ab then 97 else 99, 10])
def lineO (o : OpM) : List Int := if o.read = true then 114 :: 32 :: (txtI o.key.toNat ++ (flat o.list ++ [10])) else 97 :: 32 :: (txtI o.key.toNat ++ (32 :: (txtI o.value.toNat ++ [10])))
def textT (t : TxnM) : List Int := lineT t.id t.ab ++ (t.ops.map lineO).flatten
def textH (ts : List TxnM) : List Int := (ts.map textT).flatten
theorem textH_app (ts us : List TxnM) : textH (ts ++ us) = textH ts ++ textH us := by simp [textH]
theorem textH_txn (ts : List TxnM) (id : Int) (ab : Bool) : textH (ts ++ [⟨id, ab, []⟩]) = textH ts ++ lineT id ab := by simp [textH, textT]
theorem textH_op (ts : List TxnM) (o : OpM) (h : ts ≠ []) : textH (addOp ts o) = textH ts ++ lineO o := by
  obtain ⟨us, t, rfl⟩ : ∃ us t, ts = us ++ [t] := ⟨_, _, (List.dropLast_concat_getLast h).symm⟩
  simp [addOp, textH, textT]
/-- An operation that may be, behind a history. -/
def OpOk (ts : List TxnM) (o : OpM) : Prop := mayN o.key ∧ ((o.read = true ∧ o.value = 0 ∧ ∀ x ∈ o.list, mayN x) ∨ (o.read = false ∧ mayN o.value ∧ o.list = [] ∧ appB ts o.key o.value = false))
/-- A history that may be, but for how many operations and bytes it has. -/
inductive Valid : List TxnM → Prop
  | nil : Valid []
  | txn {ts : List TxnM} {id : Int} {ab : Bool} (h : Valid ts) (hl : ts.length < 1024) (hi : mayN id) (ht : twinB ts id = false) : Valid (ts ++ [⟨id, ab, []⟩])
  | op {ts : List TxnM} {o : OpM} (h : Valid ts) (hts : ts ≠ []) (ho : OpOk ts o) : Valid (addOp ts o)

/-- l stands at i. -/
def Mat (z : Nat → Int) (i : Nat) (l : List Int) : Prop := sub z i l.length = l
theorem Mat.app {z : Nat → Int} {i : Nat} {l m : List Int} : Mat z i (l ++ m) ↔ Mat z i l ∧ Mat z (i + l.length) m := by
  unfold Mat
  rw [List.length_append, sub_add]
  constructor
  · intro h
    exact List.append_inj h (by rw [sub_len])
  · rintro ⟨h1, h2⟩
    rw [h1, h2]
theorem Mat.cons {z : Nat → Int} {i : Nat} {x : Int} {m : List Int} : Mat z i (x :: m) ↔ z i = x ∧ Mat z (i + 1) m := by
  have := Mat.app (z := z) (i := i) (l := [x]) (m := m)
  simp only [List.singleton_append, List.length_singleton] at this
  rw [this]
  simp [Mat, sub]
theorem Mat.nil {z : Nat → Int} {i : Nat} : Mat z i [] := rfl
theorem Mat.get {z : Nat → Int} {i : Nat} {l : List Int} (h : Mat z i l) : ∀ j, j < l.length → z (i + j) = l.getD j 0 := by
  intro j hj
  rw [← sub_get z i l.length j hj, h]
theorem Mat.parse {z : Nat → Int} {len i : Nat} {n : Int} (hn : mayN n) (h : Mat z i (txtI n.toNat)) (hl : i + (txtI n.toNat).length < len) (hd : dgt (z (i + (txtI n.toNat).length)) = false) :
    parse z len (i : Int) = (n, ((i + (txtI n.toNat).length : Nat) : Int), true) := by
  have := parse_back (z := z) (len := len) (a := i) (n := n.toNat) (by unfold mayN at hn; omega) (by omega) h.get (.inr hd)
  rw [this, show ((n.toNat : Nat) : Int) = n by unfold mayN at hn; omega]

/-! ### The bytes of a history are read as that history -/
theorem line_txt {z : Nat → Int} {len i : Nat} {most : Int} {ts : List TxnM} {id : Int} {ab : Bool} (hl : ts.length < 1024) (hi : mayN id) (ht : twinB ts id = false) (hm : Mat z i (lineT id ab)) (hlen : i + (lineT id ab).length ≤ len) :
    lineS z len most ts i = ⟨ts ++ [⟨id, ab, []⟩], i + (lineT id ab).length, 0, 0⟩ := by
  have hL : (lineT id ab).length = (txtI id.toNat).length + 5 := by simp [lineT]
  rw [hL] at hlen ⊢
  unfold lineT at hm
  obtain ⟨z0, hm⟩ := Mat.cons.1 hm
  obtain ⟨z1, hm⟩ := Mat.cons.1 hm
  obtain ⟨h2, hm⟩ := Mat.app.1 hm
  obtain ⟨z3, hm⟩ := Mat.cons.1 hm
  obtain ⟨z4, hm⟩ := Mat.cons.1 hm
  obtain ⟨z5, _⟩ := Mat.cons.1 hm
  have hp := Mat.parse (len := len) hi h2 (by omega) (by rw [z3]; decide)
  rw [show i + 1 + 1 = i + 2 by omega] at hp z3 z4 z5
  obtain ⟨tz, hto⟩ : ∃ tz, i + 2 + (txtI id.toNat).length = tz := ⟨_, rfl⟩
  rw [hto] at hp z3 z4 z5
  rw [show tz + 1 + 1 = tz + 2 by omega] at z5
  have b1 : isB z len (i + 1) 32 = true := isB_iff.2 ⟨by omega, z1⟩
  have b2 : isB z len tz 32 = true := isB_iff.2 ⟨by omega, z3⟩
  have b4 : isB z len (tz + 2) 10 = true := isB_iff.2 ⟨by omega, z5⟩
  have b3 : ¬ (isB z len (tz + 1) 97 = false ∧ isB z len (tz + 1) 99 = false) := by
    rintro ⟨q1, q2⟩
    cases ab
    · exact absurd (isB_iff.2 ⟨by omega, z4⟩ : isB z len (tz + 1) 99 = true) (by simp [q2])
    · exact absurd (isB_iff.2 ⟨by omega, z4⟩ : isB z len (tz + 1) 97 = true) (by simp [q1])
  have hab : (z (tz + 1) == 97) = ab := by rw [z4]; cases ab <;> decide
  unfold lineS
  rw [if_pos z0]
  unfold txnS
  rw [if_neg (by omega), b1, hp, if_neg (by simp), if_neg (by simp), ht, if_neg (by simp)]
  simp only [Int.toNat_natCast]
  unfold txnT
  rw [b2, if_neg (by simp), if_neg b3, b4, if_neg (by simp), hab, show tz + 3 = i + ((txtI id.toNat).length + 5) by omega]
theorem line_op {z : Nat → Int} {len i : Nat} {most : Int} {ts : List TxnM} {o : OpM} (hts : ts ≠ []) (hn : (opsN ts : Int) < most) (ho : OpOk ts o) (hm : Mat z i (lineO o)) (hlen : i + (lineO o).length ≤ len) :
    lineS z len most ts i = ⟨addOp ts o, i + (lineO o).length, 0, 0⟩ := by
  obtain ⟨hk, hr | hr⟩ := ho
  · obtain ⟨r1, r2, r3⟩ := hr
    obtain ⟨rd, key, value, list⟩ := o
    simp only at r1 r2 r3 hk
    subst r1 r2
    have hO : lineO ⟨true, key, 0, list⟩ = 114 :: 32 :: (txtI key.toNat ++ (flat list ++ [10])) := rfl
    rw [hO] at hm hlen ⊢
    have hL : (114 :: 32 :: (txtI key.toNat ++ (flat list ++ [10])) : List Int).length = (txtI key.toNat).length + (flat list).length + 3 := by simp; omega
    rw [hL] at hlen ⊢
    obtain ⟨z0, hm⟩ := Mat.cons.1 hm
    obtain ⟨z1, hm⟩ := Mat.cons.1 hm
    obtain ⟨h2, hm⟩ := Mat.app.1 hm
    obtain ⟨h3, hm⟩ := Mat.app.1 hm
    obtain ⟨z4, _⟩ := Mat.cons.1 hm
    have hd : dgt (z (i + 1 + 1 + (txtI key.toNat).length)) = false := by
      cases list with
      | nil => simp [flat] at z4; rw [z4]; decide
      | cons x l => have := (Mat.cons.1 (show Mat z _ (32 :: (txtI x.toNat ++ flat l)) from h3)).1; rw [this]; decide
    have hp := Mat.parse (len := len) hk h2 (by omega) hd
    rw [show i + 1 + 1 = i + 2 by omega] at hp h3 z4
    obtain ⟨tz, hto⟩ : ∃ tz, i + 2 + (txtI key.toNat).length = tz := ⟨_, rfl⟩
    rw [hto] at hp h3 z4
    have hl : lst z len (tz : Int) = (list, ((tz + (flat list).length : Nat) : Int), true) := lst_back list tz r3 (by omega) h3.get (.inr ⟨by rw [z4]; decide, by rw [z4]; decide⟩)
    have b1 : isB z len (i + 1) 32 = true := isB_iff.2 ⟨by omega, z1⟩
    have b4 : isB z len (tz + (flat list).length) 10 = true := isB_iff.2 ⟨by omega, z4⟩
    unfold lineS
    rw [if_neg (by rw [z0]; decide), if_pos (.inr z0)]
    unfold opS
    rw [if_neg (fun q => hts (List.eq_nil_of_length_eq_zero q)), if_neg (by omega), b1, hp, if_neg (by simp), if_neg (by simp), if_pos z0]
    simp only [Int.toNat_natCast]
    unfold readT
    rw [hl, if_neg (by simp)]
    simp only [Int.toNat_natCast]
    unfold endL
    rw [b4, if_neg (by simp), show tz + (flat list).length + 1 = i + ((txtI key.toNat).length + (flat list).length + 3) by omega]
  · obtain ⟨r1, r2, r3, r4⟩ := hr
    obtain ⟨rd, key, value, list⟩ := o
    simp only at r1 r2 r3 r4 hk
    subst r1 r3
    have hO : lineO ⟨false, key, value, []⟩ = 97 :: 32 :: (txtI key.toNat ++ (32 :: (txtI value.toNat ++ [10]))) := rfl
    rw [hO] at hm hlen ⊢
    have hL : (97 :: 32 :: (txtI key.toNat ++ (32 :: (txtI value.toNat ++ [10]))) : List Int).length = (txtI key.toNat).length + (txtI value.toNat).length + 4 := by simp; omega
    rw [hL] at hlen ⊢
    obtain ⟨z0, hm⟩ := Mat.cons.1 hm
    obtain ⟨z1, hm⟩ := Mat.cons.1 hm
    obtain ⟨h2, hm⟩ := Mat.app.1 hm
    obtain ⟨z3, hm⟩ := Mat.cons.1 hm
    obtain ⟨h3, hm⟩ := Mat.app.1 hm
    obtain ⟨z4, _⟩ := Mat.cons.1 hm
    have hp := Mat.parse (len := len) hk h2 (by omega) (by rw [z3]; decide)
    have hp2 := Mat.parse (len := len) r2 h3 (by omega) (by rw [z4]; decide)
    rw [show i + 1 + 1 = i + 2 by omega] at hp hp2 z3 z4
    obtain ⟨tz, hto⟩ : ∃ tz, i + 2 + (txtI key.toNat).length = tz := ⟨_, rfl⟩
    rw [hto] at hp hp2 z3 z4
    obtain ⟨t2, ht2⟩ : ∃ t2, tz + 1 + (txtI value.toNat).length = t2 := ⟨_, rfl⟩
    rw [ht2] at hp2 z4
    have b1 : isB z len (i + 1) 32 = true := isB_iff.2 ⟨by omega, z1⟩
    have b2 : isB z len tz 32 = true := isB_iff.2 ⟨by omega, z3⟩
    have b4 : isB z len t2 10 = true := isB_iff.2 ⟨by omega, z4⟩
    unfold lineS
    rw [if_neg (by rw [z0]; decide), if_pos (.inl z0)]
    unfold opS
    rw [if_neg (fun q => hts (List.eq_nil_of_length_eq_zero q)), if_neg (by omega), b1, hp, if_neg (by simp), if_neg (by simp), if_neg (by rw [z0]; decide)]
    simp only [Int.toNat_natCast]
    unfold appT
    rw [b2, if_neg (by simp), hp2, if_neg (by simp), r4, if_neg (by simp)]
    simp only [Int.toNat_natCast]
    unfold endL
    rw [b4, if_neg (by simp), show t2 + 1 = i + ((txtI key.toNat).length + (txtI value.toNat).length + 4) by omega]
theorem lineT_pos (id : Int) (ab : Bool) : 0 < (lineT id ab).length := by simp [lineT]
theorem lineO_pos (o : OpM) : 0 < (lineO o).length := by unfold lineO; split <;> simp
theorem decL_text {z : Nat → Int} {len : Nat} {most : Int} {ts : List TxnM} (hv : Valid ts) : (opsN ts : Int) ≤ most → Mat z 0 (textH ts) → (textH ts).length ≤ len → ∀ f, len ≤ f →
    ∃ f', len - (textH ts).length ≤ f' ∧ decL z len most f [] 0 = decL z len most f' ts (textH ts).length := by
  induction hv with
  | nil => intro _ _ _ f hf; exact ⟨f, by omega, rfl⟩
  | @txn ts id ab h hl hi ht ih =>
    intro ho hm hlen f hf
    rw [textH_txn] at hm hlen ⊢
    rw [List.length_append] at hlen ⊢
    rw [opsN_app] at ho
    obtain ⟨m1, m2⟩ := Mat.app.1 hm
    rw [Nat.zero_add] at m2
    obtain ⟨f1, g1, g2⟩ := ih (by omega) m1 (by omega) f hf
    have := lineT_pos id ab
    obtain ⟨f2, hf2⟩ : ∃ f2, f1 = f2 + 1 := ⟨f1 - 1, by omega⟩
    subst hf2
    refine ⟨f2, by omega, ?_⟩
    rw [g2, decL, if_pos (by omega), line_txt hl hi ht m2 (by omega), if_pos rfl]
  | @op ts o h hts hok ih =>
    intro ho hm hlen f hf
    rw [textH_op _ _ hts] at hm hlen ⊢
    rw [List.length_append] at hlen ⊢
    rw [addOp_ops _ _ hts] at ho
    obtain ⟨m1, m2⟩ := Mat.app.1 hm
    rw [Nat.zero_add] at m2
    obtain ⟨f1, g1, g2⟩ := ih (by omega) m1 (by omega) f hf
    have := lineO_pos o
    obtain ⟨f2, hf2⟩ : ∃ f2, f1 = f2 + 1 := ⟨f1 - 1, by omega⟩
    subst hf2
    refine ⟨f2, by omega, ?_⟩
    rw [g2, decL, if_pos (by omega), line_op hts (by omega) hok m2 (by omega), if_pos rfl]
/-- A history that may be comes back from its bytes. -/
theorem decS_back {z : Nat → Int} {most : Nat} {ts : List TxnM} (hv : Valid ts) (ho : opsN ts ≤ most) (hm : most ≤ 4096) (hl : (textH ts).length ≤ 262144) (hz : Mat z 0 (textH ts)) : decS z (textH ts).length (most : Int) = (ts, 0, 0) := by
  unfold decS
  rw [if_neg (by omega), if_neg (by omega)]
  obtain ⟨f', _, h⟩ := decL_text (len := (textH ts).length) (most := (most : Int)) hv (by omega) hz (Nat.le_refl _) (textH ts).length (Nat.le_refl _)
  rw [h, decL_done (Nat.le_refl _)]

/-! ### What is read has just those bytes -/
theorem Mat.of_sub {z : Nat → Int} {i t : Nat} {l : List Int} (h : l = sub z i (t - i)) : Mat z i l ∧ l.length = t - i := by
  have hl : l.length = t - i := by rw [h, sub_len]
  exact ⟨by unfold Mat; rw [hl]; exact h.symm, hl⟩
theorem txnS_inv {z : Nat → Int} {len i : Nat} {ts : List TxnM} (hi : i < len) (hz0 : z i = 116) (h : (txnS z len ts i).e = 0) :
    ∃ id ab, (txnS z len ts i).ts = ts ++ [⟨id, ab, []⟩] ∧ ts.length < 1024 ∧ mayN id ∧ twinB ts id = false ∧ Mat z i (lineT id ab) ∧ (txnS z len ts i).nx = i + (lineT id ab).length := by
  by_cases h0 : 1024 ≤ ts.length
  · exfalso; unfold txnS at h; rw [if_pos h0] at h; simp at h
  by_cases h1 : isB z len (i + 1) 32 = false
  · exfalso; unfold txnS at h; rw [if_neg h0, if_pos h1] at h; simp at h
  have b1 := isB_iff.1 (by simpa using h1)
  rcases parse_two z len (i + 2) (by omega) with ⟨n, t, g1, g2, n0, n1, hp⟩ | ⟨t, g1, g2, hp⟩
  · by_cases ha : twinB ts n = true
    · exfalso; unfold txnS at h; rw [if_neg h0, if_neg h1, hp] at h; simp [ha] at h
    · have e : txnS z len ts i = txnT z len ts n t := by unfold txnS; rw [if_neg h0, if_neg h1, hp]; simp [ha]
      rw [e] at h ⊢
      have hx := (parse_text (show i + 2 ≤ len by omega) hp).2.2.2.2
      obtain ⟨m2, l2⟩ := Mat.of_sub hx
      by_cases h2 : isB z len t 32 = false
      · exfalso; unfold txnT at h; rw [if_pos h2] at h; simp at h
      have b2 := isB_iff.1 (by simpa using h2)
      by_cases h3 : isB z len (t + 1) 97 = false ∧ isB z len (t + 1) 99 = false
      · exfalso; unfold txnT at h; rw [if_neg h2, if_pos h3] at h; simp at h
      by_cases h4 : isB z len (t + 2) 10 = false
      · exfalso; unfold txnT at h; rw [if_neg h2, if_neg h3, if_pos h4] at h; simp at h
      have b4 := isB_iff.1 (by simpa using h4)
      have e2 : txnT z len ts n t = ⟨ts ++ [⟨n, z (t + 1) == 97, []⟩], t + 3, 0, 0⟩ := by unfold txnT; rw [if_neg h2, if_neg h3, if_neg h4]
      rw [e2]
      have h5 : z (t + 1) = if (z (t + 1) == 97) = true then 97 else 99 := by
        by_cases q : z (t + 1) = 97
        · simp [q]
        · have q' : (z (t + 1) == 97) = false := by simpa using q
          rw [q']
          by_cases r : isB z len (t + 1) 99 = true
          · exact (isB_iff.1 r).2
          · exact absurd ⟨isB_no.2 (fun w => q w.2), by simpa using r⟩ h3
      refine ⟨n, z (t + 1) == 97, rfl, by omega, ⟨n0, n1⟩, by simpa using ha, ?_, ?_⟩
      · unfold lineT
        refine Mat.cons.2 ⟨hz0, Mat.cons.2 ⟨b1.2, Mat.app.2 ⟨m2, ?_⟩⟩⟩
        rw [l2, show i + 1 + 1 + (t - (i + 2)) = t by omega]
        exact Mat.cons.2 ⟨b2.2, Mat.cons.2 ⟨h5, Mat.cons.2 ⟨b4.2, Mat.nil⟩⟩⟩
      · show t + 3 = _
        simp [lineT, l2]
        omega
  · exfalso; unfold txnS at h; rw [if_neg h0, if_neg h1, hp] at h; simp at h
theorem endL_inv {z : Nat → Int} {len tz : Nat} {ts : List TxnM} {o : OpM} (h : (endL z len ts o tz).e = 0) : endL z len ts o tz = ⟨addOp ts o, tz + 1, 0, 0⟩ ∧ tz < len ∧ z tz = 10 := by
  by_cases h1 : isB z len tz 10 = false
  · exfalso; unfold endL at h; rw [if_pos h1] at h; simp at h
  · have b1 := isB_iff.1 (by simpa using h1)
    exact ⟨by unfold endL; rw [if_neg h1], b1.1, b1.2⟩
theorem opS_inv {z : Nat → Int} {len i : Nat} {most : Int} {ts : List TxnM} (hi : i < len) (hz0 : z i = 97 ∨ z i = 114) (h : (opS z len most ts i).e = 0) :
    ∃ o, (opS z len most ts i).ts = addOp ts o ∧ ts ≠ [] ∧ (opsN ts : Int) < most ∧ OpOk ts o ∧ Mat z i (lineO o) ∧ (opS z len most ts i).nx = i + (lineO o).length := by
  by_cases h0 : ts.length = 0
  · exfalso; unfold opS at h; rw [if_pos h0] at h; simp at h
  have hts : ts ≠ [] := fun q => h0 (by rw [q]; rfl)
  by_cases h3 : most ≤ (opsN ts : Int)
  · exfalso; unfold opS at h; rw [if_neg h0, if_pos h3] at h; simp at h
  by_cases h1 : isB z len (i + 1) 32 = false
  · exfalso; unfold opS at h; rw [if_neg h0, if_neg h3, if_pos h1] at h; simp at h
  have b1 := isB_iff.1 (by simpa using h1)
  rcases parse_two z len (i + 2) (by omega) with ⟨n, t, g1, g2, n0, n1, hp⟩ | ⟨t, g1, g2, hp⟩
  · obtain ⟨m2, l2⟩ := Mat.of_sub (parse_text (show i + 2 ≤ len by omega) hp).2.2.2.2
    by_cases hr : z i = 114
    · have e : opS z len most ts i = readT z len ts n t := by unfold opS; rw [if_neg h0, if_neg h3, if_neg h1, hp]; simp [hr]
      rw [e] at h ⊢
      obtain ⟨m, u, ok, u1, u2, hl⟩ := lst_ge (z := z) g2
      cases ok with
      | true =>
        have e2 : readT z len ts n t = endL z len ts ⟨true, n, 0, m⟩ u := by unfold readT; rw [hl]; simp
        rw [e2] at h ⊢
        obtain ⟨e3, v1, v2⟩ := endL_inv h
        rw [e3]
        obtain ⟨_, _, w3, w4⟩ := lst_text g2 hl
        obtain ⟨m4, l4⟩ := Mat.of_sub w3.symm
        refine ⟨⟨true, n, 0, m⟩, rfl, hts, by omega, ⟨⟨n0, n1⟩, .inl ⟨rfl, rfl, w4⟩⟩, ?_, ?_⟩
        · show Mat z i (114 :: 32 :: (txtI n.toNat ++ (flat m ++ [10])))
          refine Mat.cons.2 ⟨hr, Mat.cons.2 ⟨b1.2, Mat.app.2 ⟨m2, ?_⟩⟩⟩
          rw [l2, show i + 1 + 1 + (t - (i + 2)) = t by omega]
          refine Mat.app.2 ⟨m4, ?_⟩
          rw [l4, show t + (u - t) = u by omega]
          exact Mat.cons.2 ⟨v2, Mat.nil⟩
        · show u + 1 = i + (114 :: 32 :: (txtI n.toNat ++ (flat m ++ [10])) : List Int).length
          simp [l2, l4]
          omega
      | false => exfalso; unfold readT at h; rw [hl] at h; simp at h
    · have e : opS z len most ts i = appT z len ts n t := by unfold opS; rw [if_neg h0, if_neg h3, if_neg h1, hp]; simp [hr]
      rw [e] at h ⊢
      have hz : z i = 97 := hz0.resolve_right hr
      by_cases h2 : isB z len t 32 = false
      · exfalso; unfold appT at h; rw [if_pos h2] at h; simp at h
      have b2 := isB_iff.1 (by simpa using h2)
      rcases parse_two z len (t + 1) (by omega) with ⟨m, u, u1, u2, k0, k1, hp2⟩ | ⟨u, u1, u2, hp2⟩
      · by_cases ha : appB ts n m = true
        · exfalso; unfold appT at h; rw [if_neg h2, hp2] at h; simp [ha] at h
        · have e2 : appT z len ts n t = endL z len ts ⟨false, n, m, []⟩ u := by unfold appT; rw [if_neg h2, hp2]; simp [ha]
          rw [e2] at h ⊢
          obtain ⟨e3, v1, v2⟩ := endL_inv h
          rw [e3]
          obtain ⟨m4, l4⟩ := Mat.of_sub (parse_text (show t + 1 ≤ len by omega) hp2).2.2.2.2
          refine ⟨⟨false, n, m, []⟩, rfl, hts, by omega, ⟨⟨n0, n1⟩, .inr ⟨rfl, ⟨k0, k1⟩, rfl, by simpa using ha⟩⟩, ?_, ?_⟩
          · show Mat z i (97 :: 32 :: (txtI n.toNat ++ (32 :: (txtI m.toNat ++ [10]))))
            refine Mat.cons.2 ⟨hz, Mat.cons.2 ⟨b1.2, Mat.app.2 ⟨m2, ?_⟩⟩⟩
            rw [l2, show i + 1 + 1 + (t - (i + 2)) = t by omega]
            refine Mat.cons.2 ⟨b2.2, Mat.app.2 ⟨m4, ?_⟩⟩
            rw [l4, show t + 1 + (u - (t + 1)) = u by omega]
            exact Mat.cons.2 ⟨v2, Mat.nil⟩
          · show u + 1 = i + (97 :: 32 :: (txtI n.toNat ++ (32 :: (txtI m.toNat ++ [10]))) : List Int).length
            simp [l2, l4]
            omega
      · exfalso; unfold appT at h; rw [if_neg h2, hp2] at h; simp at h
  · exfalso; unfold opS at h; rw [if_neg h0, if_neg h3, if_neg h1, hp] at h; simp at h
theorem decL_inv {z : Nat → Int} {len : Nat} {most : Int} : ∀ (f : Nat) (ts us : List TxnM) (i : Nat), Valid ts → Mat z 0 (textH ts) → (textH ts).length = i → i ≤ len → (opsN ts : Int) ≤ most → len - i ≤ f → decL z len most f ts i = (us, 0, 0) →
    Valid us ∧ Mat z 0 (textH us) ∧ (textH us).length = len ∧ (opsN us : Int) ≤ most
  | 0, ts, us, i, hv, hm, hl, hi, ho, hf, h => by
    simp [decL] at h
    subst h
    exact ⟨hv, hm, by omega, ho⟩
  | f + 1, ts, us, i, hv, hm, hl, hi, ho, hf, h => by
    by_cases hlt : i < len
    · rw [decL, if_pos hlt] at h
      by_cases e0 : (lineS z len most ts i).e = 0
      · rw [if_pos e0] at h
        by_cases h1 : z i = 116
        · have e : lineS z len most ts i = txnS z len ts i := if_pos h1
          rw [e] at e0 h
          obtain ⟨id, ab, q1, q2, q3, q4, q5, q6⟩ := txnS_inv hlt h1 e0
          have hnx : (txnS z len ts i).nx ≤ len := by
            rcases txnS_good (ts := ts) hlt (show z i ≠ 10 by rw [h1]; decide) with ⟨_, _, g, _⟩ | ⟨g, _⟩
            · exact g
            · exact absurd e0 g
          rw [q1] at h
          have htx := textH_txn ts id ab
          refine decL_inv f _ us _ (Valid.txn hv q2 q3 q4) ?_ ?_ hnx ?_ ?_ h
          · rw [htx]
            refine Mat.app.2 ⟨hm, ?_⟩
            rw [hl, Nat.zero_add]; exact q5
          · rw [htx, List.length_append, q6, hl]
          · rw [opsN_app]
            have : opsN [⟨id, ab, []⟩] = 0 := rfl
            omega
          · have := lineT_pos id ab; omega
        · by_cases h2 : z i = 97 ∨ z i = 114
          · have e : lineS z len most ts i = opS z len most ts i := by unfold lineS; rw [if_neg h1, if_pos h2]
            rw [e] at e0 h
            obtain ⟨o, q1, q2, q3, q4, q5, q6⟩ := opS_inv hlt h2 e0
            have hnx : (opS z len most ts i).nx ≤ len := by
              rcases opS_good (ts := ts) (most := most) hlt (show z i ≠ 10 by rcases h2 with q | q <;> rw [q] <;> decide) with ⟨_, _, g, _⟩ | ⟨g, _⟩
              · exact g
              · exact absurd e0 g
            rw [q1] at h
            have htx := textH_op ts o q2
            refine decL_inv f _ us _ (Valid.op hv q2 q4) ?_ ?_ hnx ?_ ?_ h
            · rw [htx]
              refine Mat.app.2 ⟨hm, ?_⟩
              rw [hl, Nat.zero_add]; exact q5
            · rw [htx, List.length_append, q6, hl]
            · rw [addOp_ops _ _ q2]; omega
            · have := lineO_pos o; omega
          · exfalso
            have e : lineS z len most ts i = ⟨ts, 0, 4, i⟩ := by unfold lineS; rw [if_neg h1, if_neg h2]
            rw [e] at e0
            simp at e0
      · rw [if_neg e0] at h
        simp at h
        exact absurd h.2.1 e0
    · rw [decL_done (by omega)] at h
      simp at h
      subst h
      exact ⟨hv, hm, by omega, ho⟩
/-- Bytes without a violation are those of their history, which may be. -/
theorem decS_inv {z : Nat → Int} {len : Nat} {most : Int} {us : List TxnM} (h : decS z len most = (us, 0, 0)) : Valid us ∧ Mat z 0 (textH us) ∧ (textH us).length = len ∧ (opsN us : Int) ≤ most ∧ len ≤ 262144 := by
  unfold decS at h
  by_cases h0 : most < 0 ∨ 4096 < most
  · rw [if_pos h0] at h; simp at h
  by_cases h1 : 262144 < len
  · rw [if_neg h0, if_pos h1] at h; simp at h
  rw [if_neg h0, if_neg h1] at h
  obtain ⟨a, b, c, d⟩ := decL_inv len [] us 0 Valid.nil Mat.nil rfl (Nat.zero_le _) (by show ((0 : Nat) : Int) ≤ most; omega) (by omega) h
  exact ⟨a, b, c, d, by omega⟩
end Go.Proofs.Ytigmgkcojifbcaa.Hist
