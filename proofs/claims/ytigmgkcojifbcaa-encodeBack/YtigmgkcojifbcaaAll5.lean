/- Joined out of the texts EncPlain, EncChk, EncMay, HistKeys, EncKeys, in that order. -/
import Derived.Test.YtigmgkcojifbcaaAll4
import Derived.Test.YtigmgkcojifbcaaAll3
import Derived.Deep.DeepMust
import Derived.Test.YtigmgkcojifbcaaAll2
import Derived.Test.YtigmgkcojifbcaaAll1
import Derived.Maps.OwnSet
import Derived.Maps.OwnOps
import Derived.DeepKeys4
/- A history's bytes, as a plain function: they are read as that history, and what is read has just those bytes. -/
namespace Go.Proofs.Ytigmgkcojifbcaa.Hist
open Go.RowKit Go.Proofs.Ytigmgkcojifbcaa.Dig Go.Proofs.Ytigmgkcojifbcaa.Mem
set_option linter.unusedVariables false
set_option linter.unusedSimpArgs false

def mayN (n : Int) : Prop := 0 ≤ n ∧ n ≤ 2147483647
def lineT (id : Int) (ab : Bool) : List Int := 116 :: 32 :: (txtI id.toNat ++ [32, if ab then 97 else 99, 10])
def lineO (o : OpM) : List Int := if o.read = true then 114 :: 32 :: (txtI o.key.toNat ++ (flat o.list ++ [10])) else 97 :: 32 :: (txtI o.key.toNat ++ (32 :: (txtI o.value.toNat ++ [10])))
def textT (t : TxnM) : List Int := lineT t.id t.ab ++ (t.ops.map lineO).flatten
def textH (ts : List TxnM) : List Int := (ts.map textT).flatten
theorem textH_app (ts us : List TxnM) : textH (ts ++ us) = textH ts ++ textH us := by simp [textH]
theorem textH_txn (ts : List TxnM) (id : Int) (ab : Bool) : textH (ts ++ [⟨id, ab, []⟩]) = textH ts ++ lineT id ab := by simp [textH, textT]
theorem textH_op (ts : List TxnM) (o : OpM) (h : ts ≠ []) : textH (addOp ts o) = textH ts ++ lineO o := by
  obtain ⟨us, t, rfl⟩ : ∃ us t, ts = us ++ [t] := ⟨_, _, (List.dropLast_concat_getLast h).symm⟩
  simp [addOp, textH, textT]
/-- An operation that may be, behind a history. -/
def OpOk (ts : List TxnM) (o : OpM) : Prop := mayN o.key ∧ ((o.read = true ∧ o.value = 0 ∧ ∀ x ∈ o.list, mayN x) ∨ (o.read = false ∧ mayN o.value ∧ o.list = [] ∧ appB ts o.key o.value = false))
/-- A history that may be, but for how many operations and bytes it has. -/
inductive Valid : List TxnM → Prop
  | nil : Valid []
  | txn {ts : List TxnM} {id : Int} {ab : Bool} (h : Valid ts) (hl : ts.length < 1024) (hi : mayN id) (ht : twinB ts id = false) : Valid (ts ++ [⟨id, ab, []⟩])
  | op {ts : List TxnM} {o : OpM} (h : Valid ts) (hts : ts ≠ []) (ho : OpOk ts o) : Valid (addOp ts o)

/-- l stands at i. -/
def Mat (z : Nat → Int) (i : Nat) (l : List Int) : Prop := sub z i l.length = l
theorem Mat.app {z : Nat → Int} {i : Nat} {l m : List Int} : Mat z i (l ++ m) ↔ Mat z i l ∧ Mat z (i + l.length) m := by
  unfold Mat
  rw [List.length_append, sub_add]
  constructor
  · intro h
    exact List.append_inj h (by rw [sub_len])
  · rintro ⟨h1, h2⟩
    rw [h1, h2]
theorem Mat.cons {z : Nat → Int} {i : Nat} {x : Int} {m : List Int} : Mat z i (x :: m) ↔ z i = x ∧ Mat z (i + 1) m := by
  have := Mat.app (z := z) (i := i) (l := [x]) (m := m)
  simp only [List.singleton_append, List.length_singleton] at this
  rw [this]
  simp [Mat, sub]
theorem Mat.nil {z : Nat → Int} {i : Nat} : Mat z i [] := rfl
theorem Mat.get {z : Nat → Int} {i : Nat} {l : List Int} (h : Mat z i l) : ∀ j, j < l.length → z (i + j) = l.getD j 0 := by
  intro j hj
  rw [← sub_get z i l.length j hj, h]
theorem Mat.parse {z : Nat → Int} {len i : Nat} {n : Int} (hn : mayN n) (h : Mat z i (txtI n.toNat)) (hl : i + (txtI n.toNat).length < len) (hd : dgt (z (i + (txtI n.toNat).length)) = false) :
    parse z len (i : Int) = (n, ((i + (txtI n.toNat).length : Nat) : Int), true) := by
  have := parse_back (z := z) (len := len) (a := i) (n := n.toNat) (by unfold mayN at hn; omega) (by omega) h.get (.inr hd)
  rw [this, show ((n.toNat : Nat) : Int) = n by unfold mayN at hn; omega]

/-! ### The bytes of a history are read as that history -/
theorem line_txt {z : Nat → Int} {len i : Nat} {most : Int} {ts : List TxnM} {id : Int} {ab : Bool} (hl : ts.length < 1024) (hi : mayN id) (ht : twinB ts id = false) (hm : Mat z i (lineT id ab)) (hlen : i + (lineT id ab).length ≤ len) :
    lineS z len most ts i = ⟨ts ++ [⟨id, ab, []⟩], i + (lineT id ab).length, 0, 0⟩ := by
  have hL : (lineT id ab).length = (txtI id.toNat).length + 5 := by simp [lineT]
  rw [hL] at hlen ⊢
  unfold lineT at hm
  obtain ⟨z0, hm⟩ := Mat.cons.1 hm
  obtain ⟨z1, hm⟩ := Mat.cons.1 hm
  obtain ⟨h2, hm⟩ := Mat.app.1 hm
  obtain ⟨z3, hm⟩ := Mat.cons.1 hm
  obtain ⟨z4, hm⟩ := Mat.cons.1 hm
  obtain ⟨z5, _⟩ := Mat.cons.1 hm
  have hp := Mat.parse (len := len) hi h2 (by omega) (by rw [z3]; decide)
  rw [show i + 1 + 1 = i + 2 by omega] at hp z3 z4 z5
  obtain ⟨tz, hto⟩ : ∃ tz, i + 2 + (txtI id.toNat).length = tz := ⟨_, rfl⟩
  rw [hto] at hp z3 z4 z5
  rw [show tz + 1 + 1 = tz + 2 by omega] at z5
  have b1 : isB z len (i + 1) 32 = true := isB_iff.2 ⟨by omega, z1⟩
  have b2 : isB z len tz 32 = true := isB_iff.2 ⟨by omega, z3⟩
  have b4 : isB z len (tz + 2) 10 = true := isB_iff.2 ⟨by omega, z5⟩
  have b3 : ¬ (isB z len (tz + 1) 97 = false ∧ isB z len (tz + 1) 99 = false) := by
    rintro ⟨q1, q2⟩
    cases ab
    · exact absurd (isB_iff.2 ⟨by omega, z4⟩ : isB z len (tz + 1) 99 = true) (by simp [q2])
    · exact absurd (isB_iff.2 ⟨by omega, z4⟩ : isB z len (tz + 1) 97 = true) (by simp [q1])
  have hab : (z (tz + 1) == 97) = ab := by rw [z4]; cases ab <;> decide
  unfold lineS
  rw [if_pos z0]
  unfold txnS
  rw [if_neg (by omega), b1, hp, if_neg (by simp), if_neg (by simp), ht, if_neg (by simp)]
  simp only [Int.toNat_natCast]
  unfold txnT
  rw [b2, if_neg (by simp), if_neg b3, b4, if_neg (by simp), hab, show tz + 3 = i + ((txtI id.toNat).length + 5) by omega]
theorem line_op {z : Nat → Int} {len i : Nat} {most : Int} {ts : List TxnM} {o : OpM} (hts : ts ≠ []) (hn : (opsN ts : Int) < most) (ho : OpOk ts o) (hm : Mat z i (lineO o)) (hlen : i + (lineO o).length ≤ len) :
    lineS z len most ts i = ⟨addOp ts o, i + (lineO o).length, 0, 0⟩ := by
  obtain ⟨hk, hr | hr⟩ := ho
  · obtain ⟨r1, r2, r3⟩ := hr
    obtain ⟨rd, key, value, list⟩ := o
    simp only at r1 r2 r3 hk
    subst r1 r2
    have hO : lineO ⟨true, key, 0, list⟩ = 114 :: 32 :: (txtI key.toNat ++ (flat list ++ [10])) := rfl
    rw [hO] at hm hlen ⊢
    have hL : (114 :: 32 :: (txtI key.toNat ++ (flat list ++ [10])) : List Int).length = (txtI key.toNat).length + (flat list).length + 3 := by simp; omega
    rw [hL] at hlen ⊢
    obtain ⟨z0, hm⟩ := Mat.cons.1 hm
    obtain ⟨z1, hm⟩ := Mat.cons.1 hm
    obtain ⟨h2, hm⟩ := Mat.app.1 hm
    obtain ⟨h3, hm⟩ := Mat.app.1 hm
    obtain ⟨z4, _⟩ := Mat.cons.1 hm
    have hd : dgt (z (i + 1 + 1 + (txtI key.toNat).length)) = false := by
      cases list with
      | nil => simp [flat] at z4; rw [z4]; decide
      | cons x l => have := (Mat.cons.1 (show Mat z _ (32 :: (txtI x.toNat ++ flat l)) from h3)).1; rw [this]; decide
    have hp := Mat.parse (len := len) hk h2 (by omega) hd
    rw [show i + 1 + 1 = i + 2 by omega] at hp h3 z4
    obtain ⟨tz, hto⟩ : ∃ tz, i + 2 + (txtI key.toNat).length = tz := ⟨_, rfl⟩
    rw [hto] at hp h3 z4
    have hl : lst z len (tz : Int) = (list, ((tz + (flat list).length : Nat) : Int), true) := lst_back list tz r3 (by omega) h3.get (.inr ⟨by rw [z4]; decide, by rw [z4]; decide⟩)
    have b1 : isB z len (i + 1) 32 = true := isB_iff.2 ⟨by omega, z1⟩
    have b4 : isB z len (tz + (flat list).length) 10 = true := isB_iff.2 ⟨by omega, z4⟩
    unfold lineS
    rw [if_neg (by rw [z0]; decide), if_pos (.inr z0)]
    unfold opS
    rw [if_neg (fun q => hts (List.eq_nil_of_length_eq_zero q)), if_neg (by omega), b1, hp, if_neg (by simp), if_neg (by simp), if_pos z0]
    simp only [Int.toNat_natCast]
    unfold readT
    rw [hl, if_neg (by simp)]
    simp only [Int.toNat_natCast]
    unfold endL
    rw [b4, if_neg (by simp), show tz + (flat list).length + 1 = i + ((txtI key.toNat).length + (flat list).length + 3) by omega]
  · obtain ⟨r1, r2, r3, r4⟩ := hr
    obtain ⟨rd, key, value, list⟩ := o
    simp only at r1 r2 r3 r4 hk
    subst r1 r3
    have hO : lineO ⟨false, key, value, []⟩ = 97 :: 32 :: (txtI key.toNat ++ (32 :: (txtI value.toNat ++ [10]))) := rfl
    rw [hO] at hm hlen ⊢
    have hL : (97 :: 32 :: (txtI key.toNat ++ (32 :: (txtI value.toNat ++ [10]))) : List Int).length = (txtI key.toNat).length + (txtI value.toNat).length + 4 := by simp; omega
    rw [hL] at hlen ⊢
    obtain ⟨z0, hm⟩ := Mat.cons.1 hm
    obtain ⟨z1, hm⟩ := Mat.cons.1 hm
    obtain ⟨h2, hm⟩ := Mat.app.1 hm
    obtain ⟨z3, hm⟩ := Mat.cons.1 hm
    obtain ⟨h3, hm⟩ := Mat.app.1 hm
    obtain ⟨z4, _⟩ := Mat.cons.1 hm
    have hp := Mat.parse (len := len) hk h2 (by omega) (by rw [z3]; decide)
    have hp2 := Mat.parse (len := len) r2 h3 (by omega) (by rw [z4]; decide)
    rw [show i + 1 + 1 = i + 2 by omega] at hp hp2 z3 z4
    obtain ⟨tz, hto⟩ : ∃ tz, i + 2 + (txtI key.toNat).length = tz := ⟨_, rfl⟩
    rw [hto] at hp hp2 z3 z4
    obtain ⟨t2, ht2⟩ : ∃ t2, tz + 1 + (txtI value.toNat).length = t2 := ⟨_, rfl⟩
    rw [ht2] at hp2 z4
    have b1 : isB z len (i + 1) 32 = true := isB_iff.2 ⟨by omega, z1⟩
    have b2 : isB z len tz 32 = true := isB_iff.2 ⟨by omega, z3⟩
    have b4 : isB z len t2 10 = true := isB_iff.2 ⟨by omega, z4⟩
    unfold lineS
    rw [if_neg (by rw [z0]; decide), if_pos (.inl z0)]
    unfold opS
    rw [if_neg (fun q => hts (List.eq_nil_of_length_eq_zero q)), if_neg (by omega), b1, hp, if_neg (by simp), if_neg (by simp), if_neg (by rw [z0]; decide)]
    simp only [Int.toNat_natCast]
    unfold appT
    rw [b2, if_neg (by simp), hp2, if_neg (by simp), r4, if_neg (by simp)]
    simp only [Int.toNat_natCast]
    unfold endL
    rw [b4, if_neg (by simp), show t2 + 1 = i + ((txtI key.toNat).length + (txtI value.toNat).length + 4) by omega]
theorem lineT_pos (id : Int) (ab : Bool) : 0 < (lineT id ab).length := by simp [lineT]
theorem lineO_pos (o : OpM) : 0 < (lineO o).length := by unfold lineO; split <;> simp
theorem decL_text {z : Nat → Int} {len : Nat} {most : Int} {ts : List TxnM} (hv : Valid ts) : (opsN ts : Int) ≤ most → Mat z 0 (textH ts) → (textH ts).length ≤ len → ∀ f, len ≤ f →
    ∃ f', len - (textH ts).length ≤ f' ∧ decL z len most f [] 0 = decL z len most f' ts (textH ts).length := by
  induction hv with
  | nil => intro _ _ _ f hf; exact ⟨f, by omega, rfl⟩
  | @txn ts id ab h hl hi ht ih =>
    intro ho hm hlen f hf
    rw [textH_txn] at hm hlen ⊢
    rw [List.length_append] at hlen ⊢
    rw [opsN_app] at ho
    obtain ⟨m1, m2⟩ := Mat.app.1 hm
    rw [Nat.zero_add] at m2
    obtain ⟨f1, g1, g2⟩ := ih (by omega) m1 (by omega) f hf
    have := lineT_pos id ab
    obtain ⟨f2, hf2⟩ : ∃ f2, f1 = f2 + 1 := ⟨f1 - 1, by omega⟩
    subst hf2
    refine ⟨f2, by omega, ?_⟩
    rw [g2, decL, if_pos (by omega), line_txt hl hi ht m2 (by omega), if_pos rfl]
  | @op ts o h hts hok ih =>
    intro ho hm hlen f hf
    rw [textH_op _ _ hts] at hm hlen ⊢
    rw [List.length_append] at hlen ⊢
    rw [addOp_ops _ _ hts] at ho
    obtain ⟨m1, m2⟩ := Mat.app.1 hm
    rw [Nat.zero_add] at m2
    obtain ⟨f1, g1, g2⟩ := ih (by omega) m1 (by omega) f hf
    have := lineO_pos o
    obtain ⟨f2, hf2⟩ : ∃ f2, f1 = f2 + 1 := ⟨f1 - 1, by omega⟩
    subst hf2
    refine ⟨f2, by omega, ?_⟩
    rw [g2, decL, if_pos (by omega), line_op hts (by omega) hok m2 (by omega), if_pos rfl]
/-- A history that may be comes back from its bytes. -/
theorem decS_back {z : Nat → Int} {most : Nat} {ts : List TxnM} (hv : Valid ts) (ho : opsN ts ≤ most) (hm : most ≤ 4096) (hl : (textH ts).length ≤ 262144) (hz : Mat z 0 (textH ts)) : decS z (textH ts).length (most : Int) = (ts, 0, 0) := by
  unfold decS
  rw [if_neg (by omega), if_neg (by omega)]
  obtain ⟨f', _, h⟩ := decL_text (len := (textH ts).length) (most := (most : Int)) hv (by omega) hz (Nat.le_refl _) (textH ts).length (Nat.le_refl _)
  rw [h, decL_done (Nat.le_refl _)]

/-! ### What is read has just those bytes -/
theorem Mat.of_sub {z : Nat → Int} {i t : Nat} {l : List Int} (h : l = sub z i (t - i)) : Mat z i l ∧ l.length = t - i := by
  have hl : l.length = t - i := by rw [h, sub_len]
  exact ⟨by unfold Mat; rw [hl]; exact h.symm, hl⟩
theorem txnS_inv {z : Nat → Int} {len i : Nat} {ts : List TxnM} (hi : i < len) (hz0 : z i = 116) (h : (txnS z len ts i).e = 0) :
    ∃ id ab, (txnS z len ts i).ts = ts ++ [⟨id, ab, []⟩] ∧ ts.length < 1024 ∧ mayN id ∧ twinB ts id = false ∧ Mat z i (lineT id ab) ∧ (txnS z len ts i).nx = i + (lineT id ab).length := by
  by_cases h0 : 1024 ≤ ts.length
  · exfalso; unfold txnS at h; rw [if_pos h0] at h; simp at h
  by_cases h1 : isB z len (i + 1) 32 = false
  · exfalso; unfold txnS at h; rw [if_neg h0, if_pos h1] at h; simp at h
  have b1 := isB_iff.1 (by simpa using h1)
  rcases parse_two z len (i + 2) (by omega) with ⟨n, t, g1, g2, n0, n1, hp⟩ | ⟨t, g1, g2, hp⟩
  · by_cases ha : twinB ts n = true
    · exfalso; unfold txnS at h; rw [if_neg h0, if_neg h1, hp] at h; simp [ha] at h
    · have e : txnS z len ts i = txnT z len ts n t := by unfold txnS; rw [if_neg h0, if_neg h1, hp]; simp [ha]
      rw [e] at h ⊢
      have hx := (parse_text (show i + 2 ≤ len by omega) hp).2.2.2.2
      obtain ⟨m2, l2⟩ := Mat.of_sub hx
      by_cases h2 : isB z len t 32 = false
      · exfalso; unfold txnT at h; rw [if_pos h2] at h; simp at h
      have b2 := isB_iff.1 (by simpa using h2)
      by_cases h3 : isB z len (t + 1) 97 = false ∧ isB z len (t + 1) 99 = false
      · exfalso; unfold txnT at h; rw [if_neg h2, if_pos h3] at h; simp at h
      by_cases h4 : isB z len (t + 2) 10 = false
      · exfalso; unfold txnT at h; rw [if_neg h2, if_neg h3, if_pos h4] at h; simp at h
      have b4 := isB_iff.1 (by simpa using h4)
      have e2 : txnT z len ts n t = ⟨ts ++ [⟨n, z (t + 1) == 97, []⟩], t + 3, 0, 0⟩ := by unfold txnT; rw [if_neg h2, if_neg h3, if_neg h4]
      rw [e2]
      have h5 : z (t + 1) = if (z (t + 1) == 97) = true then 97 else 99 := by
        by_cases q : z (t + 1) = 97
        · simp [q]
        · have q' : (z (t + 1) == 97) = false := by simpa using q
          rw [q']
          by_cases r : isB z len (t + 1) 99 = true
          · exact (isB_iff.1 r).2
          · exact absurd ⟨isB_no.2 (fun w => q w.2), by simpa using r⟩ h3
      refine ⟨n, z (t + 1) == 97, rfl, by omega, ⟨n0, n1⟩, by simpa using ha, ?_, ?_⟩
      · unfold lineT
        refine Mat.cons.2 ⟨hz0, Mat.cons.2 ⟨b1.2, Mat.app.2 ⟨m2, ?_⟩⟩⟩
        rw [l2, show i + 1 + 1 + (t - (i + 2)) = t by omega]
        exact Mat.cons.2 ⟨b2.2, Mat.cons.2 ⟨h5, Mat.cons.2 ⟨b4.2, Mat.nil⟩⟩⟩
      · show t + 3 = _
        simp [lineT, l2]
        omega
  · exfalso; unfold txnS at h; rw [if_neg h0, if_neg h1, hp] at h; simp at h
theorem endL_inv {z : Nat → Int} {len tz : Nat} {ts : List TxnM} {o : OpM} (h : (endL z len ts o tz).e = 0) : endL z len ts o tz = ⟨addOp ts o, tz + 1, 0, 0⟩ ∧ tz < len ∧ z tz = 10 := by
  by_cases h1 : isB z len tz 10 = false
  · exfalso; unfold endL at h; rw [if_pos h1] at h; simp at h
  · have b1 := isB_iff.1 (by simpa using h1)
    exact ⟨by unfold endL; rw [if_neg h1], b1.1, b1.2⟩
theorem opS_inv {z : Nat → Int} {len i : Nat} {most : Int} {ts : List TxnM} (hi : i < len) (hz0 : z i = 97 ∨ z i = 114) (h : (opS z len most ts i).e = 0) :
    ∃ o, (opS z len most ts i).ts = addOp ts o ∧ ts ≠ [] ∧ (opsN ts : Int) < most ∧ OpOk ts o ∧ Mat z i (lineO o) ∧ (opS z len most ts i).nx = i + (lineO o).length := by
  by_cases h0 : ts.length = 0
  · exfalso; unfold opS at h; rw [if_pos h0] at h; simp at h
  have hts : ts ≠ [] := fun q => h0 (by rw [q]; rfl)
  by_cases h3 : most ≤ (opsN ts : Int)
  · exfalso; unfold opS at h; rw [if_neg h0, if_pos h3] at h; simp at h
  by_cases h1 : isB z len (i + 1) 32 = false
  · exfalso; unfold opS at h; rw [if_neg h0, if_neg h3, if_pos h1] at h; simp at h
  have b1 := isB_iff.1 (by simpa using h1)
  rcases parse_two z len (i + 2) (by omega) with ⟨n, t, g1, g2, n0, n1, hp⟩ | ⟨t, g1, g2, hp⟩
  · obtain ⟨m2, l2⟩ := Mat.of_sub (parse_text (show i + 2 ≤ len by omega) hp).2.2.2.2
    by_cases hr : z i = 114
    · have e : opS z len most ts i = readT z len ts n t := by unfold opS; rw [if_neg h0, if_neg h3, if_neg h1, hp]; simp [hr]
      rw [e] at h ⊢
      obtain ⟨m, u, ok, u1, u2, hl⟩ := lst_ge (z := z) g2
      cases ok with
      | true =>
        have e2 : readT z len ts n t = endL z len ts ⟨true, n, 0, m⟩ u := by unfold readT; rw [hl]; simp
        rw [e2] at h ⊢
        obtain ⟨e3, v1, v2⟩ := endL_inv h
        rw [e3]
        obtain ⟨_, _, w3, w4⟩ := lst_text g2 hl
        obtain ⟨m4, l4⟩ := Mat.of_sub w3.symm
        refine ⟨⟨true, n, 0, m⟩, rfl, hts, by omega, ⟨⟨n0, n1⟩, .inl ⟨rfl, rfl, w4⟩⟩, ?_, ?_⟩
        · show Mat z i (114 :: 32 :: (txtI n.toNat ++ (flat m ++ [10])))
          refine Mat.cons.2 ⟨hr, Mat.cons.2 ⟨b1.2, Mat.app.2 ⟨m2, ?_⟩⟩⟩
          rw [l2, show i + 1 + 1 + (t - (i + 2)) = t by omega]
          refine Mat.app.2 ⟨m4, ?_⟩
          rw [l4, show t + (u - t) = u by omega]
          exact Mat.cons.2 ⟨v2, Mat.nil⟩
        · show u + 1 = i + (114 :: 32 :: (txtI n.toNat ++ (flat m ++ [10])) : List Int).length
          simp [l2, l4]
          omega
      | false => exfalso; unfold readT at h; rw [hl] at h; simp at h
    · have e : opS z len most ts i = appT z len ts n t := by unfold opS; rw [if_neg h0, if_neg h3, if_neg h1, hp]; simp [hr]
      rw [e] at h ⊢
      have hz : z i = 97 := hz0.resolve_right hr
      by_cases h2 : isB z len t 32 = false
      · exfalso; unfold appT at h; rw [if_pos h2] at h; simp at h
      have b2 := isB_iff.1 (by simpa using h2)
      rcases parse_two z len (t + 1) (by omega) with ⟨m, u, u1, u2, k0, k1, hp2⟩ | ⟨u, u1, u2, hp2⟩
      · by_cases ha : appB ts n m = true
        · exfalso; unfold appT at h; rw [if_neg h2, hp2] at h; simp [ha] at h
        · have e2 : appT z len ts n t = endL z len ts ⟨false, n, m, []⟩ u := by unfold appT; rw [if_neg h2, hp2]; simp [ha]
          rw [e2] at h ⊢
          obtain ⟨e3, v1, v2⟩ := endL_inv h
          rw [e3]
          obtain ⟨m4, l4⟩ := Mat.of_sub (parse_text (show t + 1 ≤ len by omega) hp2).2.2.2.2
          refine ⟨⟨false, n, m, []⟩, rfl, hts, by omega, ⟨⟨n0, n1⟩, .inr ⟨rfl, ⟨k0, k1⟩, rfl, by simpa using ha⟩⟩, ?_, ?_⟩
          · show Mat z i (97 :: 32 :: (txtI n.toNat ++ (32 :: (txtI m.toNat ++ [10]))))
            refine Mat.cons.2 ⟨hz, Mat.cons.2 ⟨b1.2, Mat.app.2 ⟨m2, ?_⟩⟩⟩
            rw [l2, show i + 1 + 1 + (t - (i + 2)) = t by omega]
            refine Mat.cons.2 ⟨b2.2, Mat.app.2 ⟨m4, ?_⟩⟩
            rw [l4, show t + 1 + (u - (t + 1)) = u by omega]
            exact Mat.cons.2 ⟨v2, Mat.nil⟩
          · show u + 1 = i + (97 :: 32 :: (txtI n.toNat ++ (32 :: (txtI m.toNat ++ [10]))) : List Int).length
            simp [l2, l4]
            omega
      · exfalso; unfold appT at h; rw [if_neg h2, hp2] at h; simp at h
  · exfalso; unfold opS at h; rw [if_neg h0, if_neg h3, if_neg h1, hp] at h; simp at h
theorem decL_inv {z : Nat → Int} {len : Nat} {most : Int} : ∀ (f : Nat) (ts us : List TxnM) (i : Nat), Valid ts → Mat z 0 (textH ts) → (textH ts).length = i → i ≤ len → (opsN ts : Int) ≤ most → len - i ≤ f → decL z len most f ts i = (us, 0, 0) →
    Valid us ∧ Mat z 0 (textH us) ∧ (textH us).length = len ∧ (opsN us : Int) ≤ most
  | 0, ts, us, i, hv, hm, hl, hi, ho, hf, h => by
    simp [decL] at h
    subst h
    exact ⟨hv, hm, by omega, ho⟩
  | f + 1, ts, us, i, hv, hm, hl, hi, ho, hf, h => by
    by_cases hlt : i < len
    · rw [decL, if_pos hlt] at h
      by_cases e0 : (lineS z len most ts i).e = 0
      · rw [if_pos e0] at h
        by_cases h1 : z i = 116
        · have e : lineS z len most ts i = txnS z len ts i := if_pos h1
          rw [e] at e0 h
          obtain ⟨id, ab, q1, q2, q3, q4, q5, q6⟩ := txnS_inv hlt h1 e0
          have hnx : (txnS z len ts i).nx ≤ len := by
            rcases txnS_good (ts := ts) hlt (show z i ≠ 10 by rw [h1]; decide) with ⟨_, _, g, _⟩ | ⟨g, _⟩
            · exact g
            · exact absurd e0 g
          rw [q1] at h
          have htx := textH_txn ts id ab
          refine decL_inv f _ us _ (Valid.txn hv q2 q3 q4) ?_ ?_ hnx ?_ ?_ h
          · rw [htx]
            refine Mat.app.2 ⟨hm, ?_⟩
            rw [hl, Nat.zero_add]; exact q5
          · rw [htx, List.length_append, q6, hl]
          · rw [opsN_app]
            have : opsN [⟨id, ab, []⟩] = 0 := rfl
            omega
          · have := lineT_pos id ab; omega
        · by_cases h2 : z i = 97 ∨ z i = 114
          · have e : lineS z len most ts i = opS z len most ts i := by unfold lineS; rw [if_neg h1, if_pos h2]
            rw [e] at e0 h
            obtain ⟨o, q1, q2, q3, q4, q5, q6⟩ := opS_inv hlt h2 e0
            have hnx : (opS z len most ts i).nx ≤ len := by
              rcases opS_good (ts := ts) (most := most) hlt (show z i ≠ 10 by rcases h2 with q | q <;> rw [q] <;> decide) with ⟨_, _, g, _⟩ | ⟨g, _⟩
              · exact g
              · exact absurd e0 g
            rw [q1] at h
            have htx := textH_op ts o q2
            refine decL_inv f _ us _ (Valid.op hv q2 q4) ?_ ?_ hnx ?_ ?_ h
            · rw [htx]
              refine Mat.app.2 ⟨hm, ?_⟩
              rw [hl, Nat.zero_add]; exact q5
            · rw [htx, List.length_append, q6, hl]
            · rw [addOp_ops _ _ q2]; omega
            · have := lineO_pos o; omega
          · exfalso
            have e : lineS z len most ts i = ⟨ts, 0, 4, i⟩ := by unfold lineS; rw [if_neg h1, if_neg h2]
            rw [e] at e0
            simp at e0
      · rw [if_neg e0] at h
        simp at h
        exact absurd h.2.1 e0
    · rw [decL_done (by omega)] at h
      simp at h
      subst h
      exact ⟨hv, hm, by omega, ho⟩
/-- Bytes without a violation are those of their history, which may be. -/
theorem decS_inv {z : Nat → Int} {len : Nat} {most : Int} {us : List TxnM} (h : decS z len most = (us, 0, 0)) : Valid us ∧ Mat z 0 (textH us) ∧ (textH us).length = len ∧ (opsN us : Int) ≤ most ∧ len ≤ 262144 := by
  unfold decS at h
  by_cases h0 : most < 0 ∨ 4096 < most
  · rw [if_pos h0] at h; simp at h
  by_cases h1 : 262144 < len
  · rw [if_neg h0, if_pos h1] at h; simp at h
  rw [if_neg h0, if_neg h1] at h
  obtain ⟨a, b, c, d⟩ := decL_inv len [] us 0 Valid.nil Mat.nil rfl (Nat.zero_le _) (by show ((0 : Nat) : Int) ≤ most; omega) (by omega) h
  exact ⟨a, b, c, d, by omega⟩
end Go.Proofs.Ytigmgkcojifbcaa.Hist

/- Which history may be, and its first error, as plain functions; what may be comes back. -/
namespace Go.Proofs.Ytigmgkcojifbcaa.Hist
open Go.RowKit Go.Proofs.Ytigmgkcojifbcaa.Dig Go.Proofs.Ytigmgkcojifbcaa.Mem
set_option linter.unusedVariables false
set_option linter.unusedSimpArgs false

def mayB (n : Int) : Bool := decide (0 ≤ n ∧ n ≤ 2147483647)
theorem mayB_iff {n : Int} : mayB n = true ↔ mayN n := by unfold mayB mayN; exact decide_eq_true_iff
theorem mayB_no {n : Int} : mayB n = false ↔ ¬ mayN n := by unfold mayB mayN; exact decide_eq_false_iff_not
def mayOpB (o : OpM) : Bool := if o.read = true then mayB o.key && o.list.all mayB && o.value == 0 else mayB o.key && mayB o.value && o.list.length == 0
/-- An operation's first error, behind a history. -/
def chkO (pre : List TxnM) (o : OpM) : Int := if mayOpB o = false then 2 else if o.read = false ∧ appB pre o.key o.value = true then 6 else 0
def chkOs : List TxnM → List OpM → Int
  | _, [] => 0
  | pre, o :: os => if chkO pre o = 0 then chkOs (addOp pre o) os else chkO pre o
def chkT (pre : List TxnM) (t : TxnM) : Int := if mayB t.id = false then 2 else if twinB pre t.id = true then 5 else chkOs (pre ++ [⟨t.id, t.ab, []⟩]) t.ops
def chkTs : List TxnM → List TxnM → Int
  | _, [] => 0
  | pre, t :: ts => if chkT pre t = 0 then chkTs (pre ++ [t]) ts else chkT pre t
def checkS (ts : List TxnM) : Int := if 1024 < ts.length ∨ 4096 < opsN ts then 3 else if chkTs [] ts ≠ 0 then chkTs [] ts else if 262144 < (textH ts).length then 3 else 0

theorem addOp_at (pre : List TxnM) (t : TxnM) (o : OpM) : addOp (pre ++ [t]) o = pre ++ [⟨t.id, t.ab, t.ops ++ [o]⟩] := by simp [addOp]
theorem chkOs_app : ∀ (os ps : List OpM) (qs : List TxnM) (id : Int) (ab : Bool) (rs : List OpM), chkOs (qs ++ [⟨id, ab, rs⟩]) (os ++ ps) = if chkOs (qs ++ [⟨id, ab, rs⟩]) os = 0 then chkOs (qs ++ [⟨id, ab, rs ++ os⟩]) ps else chkOs (qs ++ [⟨id, ab, rs⟩]) os
  | [], ps, qs, id, ab, rs => by simp [chkOs]
  | o :: os, ps, qs, id, ab, rs => by
    have ih := chkOs_app os ps qs id ab (rs ++ [o])
    rw [List.cons_append, chkOs, chkOs]
    by_cases h : chkO (qs ++ [⟨id, ab, rs⟩]) o = 0
    · rw [if_pos h, if_pos h, addOp_at, ih, List.append_assoc, List.singleton_append]
    · rw [if_neg h, if_neg h, if_neg h]
theorem chkTs_app : ∀ (ts us qs : List TxnM), chkTs qs (ts ++ us) = if chkTs qs ts = 0 then chkTs (qs ++ ts) us else chkTs qs ts
  | [], us, qs => by simp [chkTs]
  | t :: ts, us, qs => by
    rw [List.cons_append, chkTs, chkTs]
    by_cases h : chkT qs t = 0
    · rw [if_pos h, if_pos h, chkTs_app ts us, List.append_assoc, List.singleton_append]
    · rw [if_neg h, if_neg h, if_neg h]
/-- As far as k transactions there is no error. -/
theorem chkTs_next {ts : List TxnM} {k : Nat} (hk : k < ts.length) (h : chkTs [] (ts.take k) = 0) : chkTs [] (ts.take (k + 1)) = chkT (ts.take k) ts[k] := by
  rw [List.take_succ_eq_append_getElem hk, chkTs_app, if_pos h, List.nil_append, chkTs]
  by_cases e : chkT (ts.take k) ts[k] = 0
  · rw [if_pos e, chkTs, e]
  · rw [if_neg e]
theorem chkTs_stop {ts : List TxnM} {k : Nat} {e : Int} (h : chkTs [] (ts.take k) = e) (he : e ≠ 0) : chkTs [] ts = e := by
  have := chkTs_app (ts.take k) (ts.drop k) []
  rw [List.take_append_drop, if_neg (by rw [h]; exact he), h] at this
  exact this
theorem chkOs_next {qs : List TxnM} {id : Int} {ab : Bool} {os : List OpM} {k : Nat} (hk : k < os.length) (h : chkOs (qs ++ [⟨id, ab, []⟩]) (os.take k) = 0) : chkOs (qs ++ [⟨id, ab, []⟩]) (os.take (k + 1)) = chkO (qs ++ [⟨id, ab, os.take k⟩]) os[k] := by
  rw [List.take_succ_eq_append_getElem hk, chkOs_app, if_pos h, List.nil_append, chkOs]
  by_cases e : chkO (qs ++ [⟨id, ab, os.take k⟩]) os[k] = 0
  · rw [if_pos e, chkOs, e]
  · rw [if_neg e]
theorem chkOs_stop {qs : List TxnM} {id : Int} {ab : Bool} {os : List OpM} {k : Nat} {e : Int} (h : chkOs (qs ++ [⟨id, ab, []⟩]) (os.take k) = e) (he : e ≠ 0) : chkOs (qs ++ [⟨id, ab, []⟩]) os = e := by
  have := chkOs_app (os.take k) (os.drop k) qs id ab []
  rw [List.take_append_drop, if_neg (by rw [h]; exact he), h] at this
  exact this

/-! ### No error: it may be -/
theorem mayOp_ok {ts : List TxnM} {o : OpM} : chkO ts o = 0 ↔ OpOk ts o := by
  obtain ⟨r, k, v, l⟩ := o
  unfold chkO OpOk mayOpB
  cases r
  · simp only [Bool.false_eq_true, if_false, false_and, false_or, true_and]
    constructor
    · intro h
      split at h
      · cases h
      · rename_i h1
        split at h
        · cases h
        · rename_i h2
          simp only [Bool.not_eq_false, Bool.and_eq_true, mayB_iff, beq_iff_eq, Bool.not_eq_true] at h1 h2
          exact ⟨h1.1.1, h1.1.2, List.eq_nil_of_length_eq_zero h1.2, h2⟩
    · rintro ⟨h1, h2, h3, h4⟩
      subst h3
      rw [if_neg (by rw [mayB_iff.2 h1, mayB_iff.2 h2]; simp), if_neg (by simp [h4])]
  · simp only [if_true, true_and, Bool.true_eq_false, false_and, or_false]
    constructor
    · intro h
      split at h
      · cases h
      · rename_i h1
        simp only [Bool.not_eq_false, Bool.and_eq_true, mayB_iff, beq_iff_eq, List.all_eq_true] at h1
        exact ⟨h1.1.1, h1.2, h1.1.2⟩
    · rintro ⟨h1, h2, h3⟩
      subst h2
      rw [if_neg (by rw [mayB_iff.2 h1, (List.all_eq_true.2 fun x hx => mayB_iff.2 (h3 x hx) : l.all mayB = true)]; simp)]
      simp
theorem chkOs_valid : ∀ (os : List OpM) (qs : List TxnM) (id : Int) (ab : Bool) (rs : List OpM), Valid (qs ++ [⟨id, ab, rs⟩]) → chkOs (qs ++ [⟨id, ab, rs⟩]) os = 0 → Valid (qs ++ [⟨id, ab, rs ++ os⟩])
  | [], qs, id, ab, rs, hv, _ => by simpa using hv
  | o :: os, qs, id, ab, rs, hv, h => by
    rw [chkOs] at h
    by_cases e : chkO (qs ++ [⟨id, ab, rs⟩]) o = 0
    · rw [if_pos e, addOp_at] at h
      have := chkOs_valid os qs id ab (rs ++ [o]) (by have := Valid.op hv (by simp) (mayOp_ok.1 e); rwa [addOp_at] at this) h
      rwa [List.append_assoc, List.singleton_append] at this
    · rw [if_neg e] at h; exact absurd h e
theorem chkTs_valid : ∀ (ts qs : List TxnM), Valid qs → qs.length + ts.length ≤ 1024 → chkTs qs ts = 0 → Valid (qs ++ ts)
  | [], qs, hv, _, _ => by simpa using hv
  | t :: ts, qs, hv, hl, h => by
    simp at hl
    rw [chkTs] at h
    by_cases e : chkT qs t = 0
    · rw [if_pos e] at h
      have hv2 : Valid (qs ++ [t]) := by
        unfold chkT at e
        by_cases h1 : mayB t.id = false
        · rw [if_pos h1] at e; cases e
        by_cases h2 : twinB qs t.id = true
        · rw [if_neg h1, if_pos h2] at e; cases e
        rw [if_neg h1, if_neg h2] at e
        have := chkOs_valid t.ops qs t.id t.ab [] (Valid.txn hv (by omega) (mayB_iff.1 (by simpa using h1)) (by simpa using h2)) e
        simpa using this
      have := chkTs_valid ts (qs ++ [t]) hv2 (by simp; omega) h
      rwa [List.append_assoc, List.singleton_append] at this
    · rw [if_neg e] at h; exact absurd h e
/-- .. and the other way. -/
theorem valid_chk {ts : List TxnM} (h : Valid ts) : chkTs [] ts = 0 := by
  induction h with
  | nil => rfl
  | @txn ts id ab h hl hi ht ih =>
    rw [chkTs_app, if_pos ih, List.nil_append, chkTs]
    have : chkT ts ⟨id, ab, []⟩ = 0 := by unfold chkT; rw [if_neg (by simp [mayB_iff.2 hi]), if_neg (by simp [ht])]; rfl
    rw [if_pos this, chkTs]
  | @op ts o h hts ho ih =>
    obtain ⟨us, t, rfl⟩ : ∃ us t, ts = us ++ [t] := ⟨_, _, (List.dropLast_concat_getLast hts).symm⟩
    rw [addOp_at]
    rw [chkTs_app] at ih ⊢
    by_cases e : chkTs [] us = 0
    · rw [if_pos e, List.nil_append] at ih ⊢
      have hT : chkT us t = 0 := by
        rw [chkTs] at ih
        by_cases q : chkT us t = 0
        · exact q
        · rw [if_neg q] at ih; exact ih
      rw [chkTs]
      have : chkT us ⟨t.id, t.ab, t.ops ++ [o]⟩ = 0 := by
        unfold chkT at hT ⊢
        by_cases h1 : mayB t.id = false
        · rw [if_pos h1] at hT; cases hT
        by_cases h2 : twinB us t.id = true
        · rw [if_neg h1, if_pos h2] at hT; cases hT
        rw [if_neg h1, if_neg h2] at hT
        rw [if_neg h1, if_neg h2]
        show chkOs (us ++ [⟨t.id, t.ab, []⟩]) (t.ops ++ [o]) = 0
        rw [chkOs_app, if_pos hT, List.nil_append, chkOs, if_pos (mayOp_ok.2 ho), chkOs]
      rw [if_pos this, chkTs]
    · rw [if_neg e] at ih; exact absurd ih e
theorem valid_len {ts : List TxnM} (h : Valid ts) : ts.length ≤ 1024 := by
  induction h with
  | nil => simp
  | txn h hl hi ht ih => simp; omega
  | op h hts ho ih => rw [addOp_len]; exact ih
theorem checkS_ok {ts : List TxnM} (h : checkS ts = 0) : Valid ts ∧ opsN ts ≤ 4096 ∧ (textH ts).length ≤ 262144 ∧ ts.length ≤ 1024 := by
  unfold checkS at h
  by_cases h1 : 1024 < ts.length ∨ 4096 < opsN ts
  · rw [if_pos h1] at h; cases h
  by_cases h2 : chkTs [] ts ≠ 0
  · rw [if_neg h1, if_pos h2] at h; exact absurd h h2
  by_cases h3 : 262144 < (textH ts).length
  · rw [if_neg h1, if_neg h2, if_pos h3] at h; cases h
  have := chkTs_valid ts [] Valid.nil (by simp; omega) (by omega)
  exact ⟨by simpa using this, by omega, by omega, by omega⟩
theorem ok_checkS {ts : List TxnM} (hv : Valid ts) (ho : opsN ts ≤ 4096) (hl : (textH ts).length ≤ 262144) : checkS ts = 0 := by
  have := valid_len hv
  unfold checkS
  rw [if_neg (by omega), if_neg (by rw [valid_chk hv]; simp), if_neg (by omega)]

/-! ### Its text, as bytes -/
def lineT8 (id : Int) (ab : Bool) : List UInt8 := 116 :: 32 :: (txt id.toNat ++ [32, if ab then 97 else 99, 10])
def flat8 (l : List Int) : List UInt8 := (l.map fun x => 32 :: txt x.toNat).flatten
def lineO8 (o : OpM) : List UInt8 := if o.read = true then 114 :: 32 :: (txt o.key.toNat ++ (flat8 o.list ++ [10])) else 97 :: 32 :: (txt o.key.toNat ++ (32 :: (txt o.value.toNat ++ [10])))
def textT8 (t : TxnM) : List UInt8 := lineT8 t.id t.ab ++ (t.ops.map lineO8).flatten
def textH8 (ts : List TxnM) : List UInt8 := (ts.map textT8).flatten
def toI (l : List UInt8) : List Int := l.map fun b => (b.toNat : Int)
theorem toI_len (l : List UInt8) : (toI l).length = l.length := by simp [toI]
theorem flat_toI : ∀ l : List Int, toI (flat8 l) = flat l
  | [] => rfl
  | x :: l => by
    have ih := flat_toI l
    simp only [flat8, List.map_cons, List.flatten_cons, toI, List.map_append] at ih ⊢
    rw [ih]
    rfl
theorem lineT_toI (id : Int) (ab : Bool) : toI (lineT8 id ab) = lineT id ab := by cases ab <;> simp [toI, lineT8, lineT, txtI]
theorem lineO_toI (o : OpM) : toI (lineO8 o) = lineO o := by
  unfold lineO8 lineO
  split
  · rw [← flat_toI]; simp [toI, txtI]
  · simp [toI, txtI]
theorem ops_toI : ∀ os : List OpM, toI (os.map lineO8).flatten = (os.map lineO).flatten
  | [] => rfl
  | o :: os => by
    have ih := ops_toI os
    have h := lineO_toI o
    simp only [List.map_cons, List.flatten_cons, toI, List.map_append] at ih h ⊢
    rw [ih, h]
theorem textT_toI (t : TxnM) : toI (textT8 t) = textT t := by
  have h1 := lineT_toI t.id t.ab
  have h2 := ops_toI t.ops
  simp only [textT8, textT, toI, List.map_append] at h1 h2 ⊢
  rw [h1, h2]
theorem textH_toI : ∀ ts : List TxnM, toI (textH8 ts) = textH ts
  | [] => rfl
  | t :: ts => by
    have ih := textH_toI ts
    have h := textT_toI t
    simp only [textH8, textH, List.map_cons, List.flatten_cons, toI, List.map_append] at ih h ⊢
    rw [ih, h]
theorem textH8_len (ts : List TxnM) : (textH8 ts).length = (textH ts).length := by rw [← textH_toI, toI_len]
/-- All its numbers may be. -/
def MayAll (ts : List TxnM) : Prop := ∀ t ∈ ts, mayN t.id ∧ ∀ o ∈ t.ops, mayOpB o = true
theorem valid_may {ts : List TxnM} (h : Valid ts) : MayAll ts := by
  induction h with
  | nil => intro t ht; cases ht
  | txn h hl hi ht ih =>
    intro u hu
    rcases List.mem_append.1 hu with q | q
    · exact ih u q
    · obtain rfl := List.mem_singleton.1 q
      exact ⟨hi, fun o ho => by cases ho⟩
  | @op ts o h hts ho ih =>
    obtain ⟨us, t, rfl⟩ : ∃ us t, ts = us ++ [t] := ⟨_, _, (List.dropLast_concat_getLast hts).symm⟩
    rw [addOp_at]
    intro u hu
    rcases List.mem_append.1 hu with q | q
    · exact ih u (List.mem_append_left _ q)
    · obtain rfl := List.mem_singleton.1 q
      have ht := ih t (by simp)
      refine ⟨ht.1, fun p hp => ?_⟩
      rcases List.mem_append.1 hp with r | r
      · exact ht.2 p r
      · obtain rfl := List.mem_singleton.1 r
        have := mayOp_ok.2 ho
        unfold chkO at this
        by_cases e : mayOpB p = false
        · rw [if_pos e] at this; cases this
        · simpa using e
theorem mayOp_read {o : OpM} (h : mayOpB o = true) (hr : o.read = true) : mayN o.key ∧ (∀ x ∈ o.list, mayN x) ∧ o.value = 0 := by
  unfold mayOpB at h
  rw [if_pos hr] at h
  simp at h
  exact ⟨mayB_iff.1 h.1.1, fun x hx => mayB_iff.1 (h.1.2 x hx), h.2⟩
theorem mayOp_app {o : OpM} (h : mayOpB o = true) (hr : o.read = false) : mayN o.key ∧ mayN o.value ∧ o.list = [] := by
  unfold mayOpB at h
  rw [if_neg (by simp [hr])] at h
  simp at h
  exact ⟨mayB_iff.1 h.1.1, mayB_iff.1 h.1.2, h.2⟩
end Go.Proofs.Ytigmgkcojifbcaa.Hist

/- Contracts of mayBe and numbersSize, and of the document's may and number. -/
namespace Go.Proofs.Ytigmgkcojifbcaa.Hist
open Go.RowKit Go.Proofs.Ytigmgkcojifbcaa.Dig Go.Proofs.Ytigmgkcojifbcaa.Mem
set_option linter.unusedVariables false
set_option linter.unusedSimpArgs false

theorem all_take {α : Type} {p : α → Bool} {l : List α} {k : Nat} (h : k < l.length) : (l.take (k + 1)).all p = ((l.take k).all p && p l[k]) := by
  rw [List.take_succ_eq_append_getElem h, List.all_append]; simp
theorem all_not {α : Type} {p : α → Bool} {l : List α} {k : Nat} (h : k < l.length) (hp : p l[k] = false) : l.all p = false := by
  rw [Bool.eq_false_iff]
  intro q
  have := List.all_eq_true.1 q _ (List.getElem_mem h)
  rw [hp] at this; cases this
theorem all_done {α : Type} {p : α → Bool} {l : List α} {k : Nat} (hk : ¬ k < l.length) (h : (l.take k).all p = true) : l.all p = true := by
  rwa [List.take_of_length_le (by omega)] at h
theorem ints_at {F : Nat → Prop} {w : World} {a : Option Addr} {cap : Nat} {l : List Int} (h : IntsAt F w (.slice a l.length cap) l) (hl : l.length ≤ 1000000) {k : Nat} (hk : k < l.length) :
    ∃ b off, a = some ⟨b, off, none⟩ ∧ w.cell? ⟨b, off + k, none⟩ = some (.int .i64 l[k]) ∧ (Lit.int .i64 l[k]).wf = true := by
  obtain ⟨a', cap', e, _, hr⟩ := h.rd (by omega)
  simp at e
  obtain ⟨rfl, rfl⟩ := e
  obtain ⟨b, off, e1, e2, e3⟩ := hr.2 k hk
  have e : l.getD k 0 = l[k] := by simp [List.getD_eq_getElem?_getD, List.getElem?_eq_getElem hk]
  exact ⟨b, off, e1, by rw [← e]; exact e2, by rw [← e]; exact e3⟩
theorem maybe_any (F : Nat → Prop) (v : Value) (l : List Int) (w : World) (h : IntsAt F w v l) (hl : l.length ≤ 1000000) :
    Calls Try.prog 41 #[v] w fun e w' => e = .returned (.bool (l.all mayB)) ∧ w' = w := by
  obtain ⟨a, c, rfl, _, _⟩ := h.shape
  have H := hide h
  clear h
  go_enter Try.func41, Try.ntmps41
  go_wp2
  go_loop [7] (fun i => ∃ k : Nat, k ≤ l.length ∧ i = .int .i64 (k : Int) ∧ Hid ((l.take k).all mayB = true)) (fun i => l.length - (intOf i).toNat)
  case atStart => exact ⟨0, by omega, rfl, hide rfl⟩
  case round =>
    obtain ⟨k, hk, rfl, hj⟩ := hrel
    by_cases hlt : k < l.length
    · obtain ⟨b, off, rfl, hc, hw⟩ := ints_at H.out hl hlt
      by_cases h1 : l[k] < 0
      · have T : Hid (l.all mayB = false) := hide (all_not hlt (mayB_no.2 (by unfold mayN; omega)))
        go_wp2
        go_ret
        exact ⟨by rw [T.out]; rfl, rfl⟩
      by_cases h2 : 2147483647 < l[k]
      · have T : Hid (l.all mayB = false) := hide (all_not hlt (mayB_no.2 (by unfold mayN; omega)))
        go_wp2
        go_ret
        exact ⟨by rw [T.out]; rfl, rfl⟩
      · have T : Hid ((l.take (k + 1)).all mayB = true) := hide (by rw [all_take hlt, hj.out, mayB_iff.2 (by unfold mayN; omega)]; rfl)
        go_wp2
        go_round
        case rel => exact ⟨k + 1, by omega, by go_num, T⟩
        case measure => simp [intOf]; omega
    · have T : Hid (l.all mayB = true) := hide (all_done hlt hj.out)
      go_wp2
      go_ret
      exact ⟨by rw [T.out]; rfl, rfl⟩

/-- What numbers take of a line. -/
def sizeN (l : List Int) : Nat := (l.map fun x => (txt x.toNat).length + 1).sum
theorem sizeN_take {l : List Int} {k : Nat} (h : k < l.length) : sizeN (l.take (k + 1)) = sizeN (l.take k) + ((txt l[k].toNat).length + 1) := by
  unfold sizeN
  rw [List.take_succ_eq_append_getElem h, List.map_append, List.sum_append]; simp
theorem sizeN_le : ∀ l : List Int, sizeN l ≤ 11 * l.length
  | [] => by simp [sizeN]
  | x :: l => by
    have := sizeN_le l
    have := (txt_len x.toNat).2
    simp only [sizeN, List.map_cons, List.sum_cons, List.length_cons] at *
    omega
theorem nsize_any (F : Nat → Prop) (v : Value) (l : List Int) (w : World) (h : IntsAt F w v l) (hl : l.length ≤ 1000000) (hm : ∀ x ∈ l, mayN x) :
    Calls Try.prog 37 #[v] w fun e w' => e = .returned (.int .i64 (sizeN l : Int)) ∧ w' = w := by
  obtain ⟨a, c, rfl, _, _⟩ := h.shape
  have H := hide h
  have M := hide hm
  clear h hm
  go_enter Try.func37, Try.ntmps37
  go_wp2
  go_loop [3, 8] (fun n i => ∃ k : Nat, ∃ s : Nat, k ≤ l.length ∧ i = .int .i64 (k : Int) ∧ n = .int .i64 (s : Int) ∧ Hid (s = sizeN (l.take k)) ∧ s ≤ 11 * k) (fun _ i => l.length - (intOf i).toNat)
  case atStart => exact ⟨0, 0, by omega, rfl, rfl, hide (by simp [sizeN]), by omega⟩
  case round =>
    obtain ⟨k, s, hk, rfl, rfl, hj, hs⟩ := hrel
    by_cases hlt : k < l.length
    · obtain ⟨b, off, rfl, hc, hw⟩ := ints_at H.out hl hlt
      obtain ⟨m, hm⟩ : ∃ m : Nat, (txt l[k].toNat).length = m := ⟨_, rfl⟩
      have hm10 : m ≤ 10 := by have := (txt_len l[k].toNat).2; omega
      have HWD : Hid (widthS l[k] = (m : Int)) := hide (by
        have hx := M.out _ (List.getElem_mem hlt)
        unfold mayN at hx
        unfold widthS
        rw [if_pos hx, hm])
      have HB : Hid (l[k] < 9223372036854775808) := hide (by have hx := M.out _ (List.getElem_mem hlt); unfold mayN at hx; omega)
      have T : Hid (s + m + 1 = sizeN (l.take (k + 1))) := hide (by rw [sizeN_take hlt, hm, ← hj.out]; omega)
      clear hm
      go_wp2_with (go_at_call 53; go_must ((with_reducible refine (width_any _ _ HB.out).mono ?_); rw [HWD.out]; rintro e w' ⟨rfl, hq⟩; replace hq := hq.symm; subst hq))
      go_round
      case rel => exact ⟨k + 1, s + m + 1, by omega, by go_num, by go_num, T, by omega⟩
      case measure => simp [intOf]; omega
    · have e : k = l.length := by omega
      subst e
      have T : Hid (s = sizeN l) := hide (by rw [hj.out, List.take_length])
      go_wp2
      go_ret
      exact ⟨by rw [← T.out]; rfl, rfl⟩

theorem rmay_any (n : Int) (w : World) : Calls Try.prog 26 #[.int .i64 n] w fun e w' => e = .returned (.bool (mayB n)) ∧ w' = w := by
  by_cases h1 : 0 ≤ n
  · by_cases h2 : n ≤ 2147483647
    · have T : Hid (mayB n = true) := hide (mayB_iff.2 ⟨h1, h2⟩)
      go_enter Try.func26, Try.ntmps26
      go_wp2
      go_ret
      exact ⟨by rw [T.out]; rfl, rfl⟩
    · have T : Hid (mayB n = false) := hide (mayB_no.2 (fun q => h2 q.2))
      go_enter Try.func26, Try.ntmps26
      go_wp2
      go_ret
      exact ⟨by rw [T.out]; rfl, rfl⟩
  · have T : Hid (mayB n = false) := hide (mayB_no.2 (fun q => h1 q.1))
    go_enter Try.func26, Try.ntmps26
    go_wp2
    go_ret
    exact ⟨by rw [T.out]; rfl, rfl⟩
theorem print_may {n : Int} (h : mayN n) : printS n = txt n.toNat ∧ errS n = 0 := by
  obtain ⟨N, rfl⟩ : ∃ N : Nat, n = N := ⟨n.toNat, by unfold mayN at h; omega⟩
  have := printS_in (N := N) (by unfold mayN at h; omega)
  exact ⟨by rw [this.1]; simp, this.2⟩
theorem rnum_any (n : Int) (w : World) (h : mayN n) : Calls Try.prog 36 #[.int .i64 n] w fun e w' => e = .returned (.string ⟨(txt n.toNat).toArray⟩) ∧ w' = w := by
  have HP := hide (print_may h)
  clear h
  go_enter Try.func36, Try.ntmps36
  go_wp2_with (go_at_call 52; go_must ((with_reducible refine (rprint_any _ _).mono ?_); rw [HP.out.1, HP.out.2]; rintro e w' ⟨rfl, hq⟩; replace hq := hq.symm; subst hq))
  go_ret
  exact ⟨rfl, rfl⟩
theorem text_any (n : Int) (w : World) (h : mayN n) : Calls Try.prog 20 #[.int .i64 n] w fun e w' => e = .returned (.string ⟨(txt n.toNat).toArray⟩) ∧ Below w.heap.size w w' := by
  have HP := hide (print_may h)
  have HB : Hid (n < 9223372036854775808) := hide (by unfold mayN at h; omega)
  clear h
  go_enter Try.func20, Try.ntmps20
  go_wp2_with (go_at_call 40; go_must ((with_reducible refine (print_any _ _ HB.out).mono ?_); rw [HP.out.1, HP.out.2]; rintro e w' ⟨rfl, hb⟩))
  go_ret
  exact ⟨rfl, hb⟩
end Go.Proofs.Ytigmgkcojifbcaa.Hist

/- Sets that a reader keeps: maps of struct{} by keys that are structs of numbers. -/
namespace Go.Proofs.Ytigmgkcojifbcaa.Keys
open Go.RowKit Go.Proofs.Ytigmgkcojifbcaa.Dig Go.Proofs.Ytigmgkcojifbcaa.Mem Go.Maps
set_option linter.unusedVariables false
set_option linter.unusedSimpArgs false

theorem zeroUnit (w : World) : (zeroValue 83).run Try.prog w = .ok (.agg #[]) w := by kernel_rfl
set_option maxRecDepth 100000 in
theorem rowNamed : (129 : TypeId) < Try.prog.types.size := of_decide_eq_true (by kernel_rfl)
set_option maxRecDepth 100000 in
theorem rowApp : (132 : TypeId) < Try.prog.types.size := of_decide_eq_true (by kernel_rfl)
theorem wideNamed : (match Try.prog.underlying 129 with | some (.array _ _) | some (.struct _) => true | _ => false) = true := by kernel_rfl
theorem wideApp : (match Try.prog.underlying 132 with | some (.array _ _) | some (.struct _) => true | _ => false) = true := by kernel_rfl
set_option maxRecDepth 100000 in
theorem lawNamed : Keyed Try.prog 129 := Keyed.of_law (deep_law_laid Frame.laidOut (m := 2) (by omega) rowNamed (by kernel_rfl) wideNamed)
set_option maxRecDepth 100000 in
theorem lawApp : Keyed Try.prog 132 := Keyed.of_law (deep_law_laid Frame.laidOut (m := 2) (by omega) rowApp (by kernel_rfl) wideApp)
theorem ktNamed : Try.prog.keyType 129 = true := by kernel_rfl
theorem ktApp : Try.prog.keyType 132 = true := by kernel_rfl
set_option maxRecDepth 100000 in
theorem sizes : ∃ m, Try.prog.types.size = m + 1 := ⟨Try.prog.types.size - 1, (Nat.sub_add_cancel (Nat.lt_of_le_of_lt (Nat.zero_le _) rowNamed)).symm⟩
theorem cellsNamed : Try.prog.cellsOf 129 = 1 := by kernel_rfl
theorem cellsApp : Try.prog.cellsOf 132 = 2 := by kernel_rfl
theorem cellsInt : Try.prog.cellsOf 3 = 1 := by kernel_rfl
theorem keyNamed {n : Int} (hw : (Lit.int .i64 n).wf = true) : keyOf Try.prog 129 (.agg #[.int .i64 n]) = some (.string (keyBytes [.int .i64 n])) := by
  obtain ⟨m, hm⟩ := sizes
  unfold keyOf
  simp only [Try.underlying129]
  rw [if_pos (by simp [ktNamed, Value.formed, Try.underlying129, cellsNamed]), hm]
  simp [Program.keyLits, Try.underlying129, cellsNamed, cellsInt, Value.cells, go_sem, hw, Try.underlying3]
theorem keyApp {k v : Int} (hk : (Lit.int .i64 k).wf = true) (hv : (Lit.int .i64 v).wf = true) : keyOf Try.prog 132 (.agg #[.int .i64 k, .int .i64 v]) = some (.string (keyBytes [.int .i64 k, .int .i64 v])) := by
  obtain ⟨m, hm⟩ := sizes
  unfold keyOf
  simp only [Try.underlying132]
  rw [if_pos (by simp [ktApp, Value.formed, Try.underlying132, cellsApp]), hm]
  simp [Program.keyLits, Try.underlying132, cellsApp, cellsInt, Value.cells, go_sem, hk, hv, Try.underlying3]

/-- Block b is a set of at most n keys, those of which P says so. -/
def SetAt {α : Type} (K : TypeId) (key : α → Value) (lit : α → Lit) (ok : α → Prop) (w : World) (b n : Nat) (P : α → Bool) : Prop :=
  ∃ D : DataW Unit, w.ownsMap Try.prog K unitElem b n D ∧ ∀ x, ok x → Maps.has D (lit x) = P x
/-- What a set's keys are. -/
structure KeyIs {α : Type} (K : TypeId) (key : α → Value) (lit : α → Lit) (ok : α → Prop) : Prop where
  law : Keyed Try.prog K
  of : ∀ x, ok x → keyOf Try.prog K (key x) = some (lit x)
  inj : ∀ x y, key x = key y → x = y
section
variable {α : Type} {K T : TypeId} {key : α → Value} {lit : α → Lit} {ok : α → Prop} {w w' : World} {b n : Nat} {P : α → Bool}
theorem SetAt.lt (h : SetAt K key lit ok w b n P) : b < w.heap.size := let ⟨_, h1, _⟩ := h; h1.lt
theorem SetAt.made (w : World) (hb : b = w.heap.size) : SetAt K key lit ok (w.alloc (.map #[] 0)) b 0 (fun _ => false) := by
  subst hb
  exact ⟨_, World.ownsMap_made w Try.prog K unitElem, fun x _ => by simp [Maps.has]⟩
theorem SetAt.keep {S : Nat → Prop} (h : SetAt K key lit ok w b n P) (ho : Only S w w') (hb : ¬ S b) : SetAt K key lit ok w' b n P := by
  obtain ⟨D, h1, h2⟩ := h
  have hl := h1.lt
  obtain ⟨es, clock, e, r⟩ := h1
  exact ⟨D, ⟨es, clock, by rw [ho.block b hl hb]; exact e, r⟩, h2⟩
theorem SetAt.mono (h : SetAt K key lit ok w b n P) {m : Nat} (hm : n ≤ m) : SetAt K key lit ok w b m P := let ⟨D, h1, h2⟩ := h; ⟨D, h1.mono hm, h2⟩
theorem SetAt.congr (h : SetAt K key lit ok w b n P) {P' : α → Bool} (e : ∀ x, P' x = P x) : SetAt K key lit ok w b n P' := let ⟨D, h1, h2⟩ := h; ⟨D, h1, fun x hx => by rw [e]; exact h2 x hx⟩
theorem SetAt.block (h : SetAt K key lit ok w b n P) (hb : w'.heap[b]? = w.heap[b]?) : SetAt K key lit ok w' b n P := by
  obtain ⟨D, ⟨es, clock, e, r⟩, h2⟩ := h
  exact ⟨D, ⟨es, clock, by rw [hb]; exact e, r⟩, h2⟩
theorem SetAt.look (h : SetAt K key lit ok w b n P) (hk : KeyIs K key lit ok) (ht : Try.prog.underlying T = some (.map K 83)) {x : α} (hx : ok x) :
    (Instr.lookup T (.map (some b)) (key x) true).run Try.prog w = .ok (.tuple #[.agg #[], .bool (P x)]) w := by
  obtain ⟨D, h1, h2⟩ := h
  obtain ⟨v, ps, hrun, hv⟩ := h1.look_ok hk.law ht (zeroUnit w) unitElem_mk (hk.of x hx)
  obtain ⟨rfl, _⟩ := unitElem_inv hv
  rw [hrun, h2 x hx]
theorem SetAt.store (h : SetAt K key lit ok w b n P) (hk : KeyIs K key lit ok) (ht : Try.prog.underlying T = some (.map K 83)) {x : α} (hx : ok x) (hn : n < maxLen) {P' : α → Bool} (h1 : P' x = true) (h2 : ∀ y, y ≠ x → P' y = P y) :
    ∃ w', (Instr.mapUpdate T (.map (some b)) (key x) (.agg #[])).run Try.prog w = .ok () w' ∧ SetAt K key lit ok w' b (n + 1) P' ∧ Only (fun k => k = b) w w' := by
  obtain ⟨D, g1, g2⟩ := h
  have hm := g1.isMap
  obtain ⟨w', hrun, hown, hg⟩ := g1.update hk.law ht hn (hk.of x hx) unitElem_mk
  refine ⟨w', hrun, ⟨_, hown, fun y hy => ?_⟩, ⟨hg.os, hg.tape, hg.output, hg.size, fun k hk hn => hg.block k hk (fun q => hn (by simpa using q))⟩⟩
  by_cases e : y = x
  · subst e
    rw [h1]
    exact Maps.has_put_same hm (hk.law.key (hk.of y hy)) _
  · rw [h2 y e, ← g2 y hy]
    refine Maps.has_put_other (fun q => e (hk.inj y x ?_)) _
    have := hk.of y hy
    rw [q] at this
    exact hk.law.inj this (hk.of x hx)
end
def nameV (n : Int) : Value := .agg #[.int .i64 n]
def nameL (n : Int) : Lit := .string (keyBytes [.int .i64 n])
def nameOk (n : Int) : Prop := (Lit.int .i64 n).wf = true
theorem nameIs : KeyIs 129 nameV nameL nameOk := ⟨lawNamed, fun x hx => keyNamed hx, fun x y h => by simpa [nameV] using h⟩
def appV (p : Int × Int) : Value := .agg #[.int .i64 p.1, .int .i64 p.2]
def appL (p : Int × Int) : Lit := .string (keyBytes [.int .i64 p.1, .int .i64 p.2])
def appOk (p : Int × Int) : Prop := (Lit.int .i64 p.1).wf = true ∧ (Lit.int .i64 p.2).wf = true
theorem appIs : KeyIs 132 appV appL appOk := ⟨lawApp, fun x hx => keyApp hx.1 hx.2, fun x y h => by simp [appV] at h; exact Prod.ext h.1 h.2⟩
def Names (w : World) (b n : Nat) (P : Int → Bool) : Prop := SetAt 129 nameV nameL nameOk w b n P
def Vals (w : World) (b n : Nat) (P : Int × Int → Bool) : Prop := SetAt 132 appV appL appOk w b n P
theorem Names.look {w : World} {b n : Nat} {P : Int → Bool} (h : Names w b n P) {x : Int} (hx : (Lit.int .i64 x).wf = true) : (Instr.lookup 69 (.map (some b)) (.agg #[.int .i64 x]) true).run Try.prog w = .ok (.tuple #[.agg #[], .bool (P x)]) w := SetAt.look h nameIs Try.underlying69 hx
theorem Vals.look {w : World} {b n : Nat} {P : Int × Int → Bool} (h : Vals w b n P) {x y : Int} (hx : (Lit.int .i64 x).wf = true) (hy : (Lit.int .i64 y).wf = true) : (Instr.lookup 70 (.map (some b)) (.agg #[.int .i64 x, .int .i64 y]) true).run Try.prog w = .ok (.tuple #[.agg #[], .bool (P (x, y))]) w := SetAt.look (x := (x, y)) h appIs Try.underlying70 ⟨hx, hy⟩
theorem Names.store {w : World} {b n : Nat} {P : Int → Bool} (h : Names w b n P) {x : Int} (hx : (Lit.int .i64 x).wf = true) (hn : n < 1000000) :
    ∃ w', (Instr.mapUpdate 69 (.map (some b)) (.agg #[.int .i64 x]) (.agg #[])).run Try.prog w = .ok () w' ∧ Names w' b (n + 1) (fun y => P y || x == y) ∧ Only (fun k => k = b) w w' :=
  SetAt.store h nameIs Try.underlying69 hx (by unfold maxLen; omega) (by simp) (fun y hy => by simp [Ne.symm hy])
theorem Vals.store {w : World} {b n : Nat} {P : Int × Int → Bool} (h : Vals w b n P) {x y : Int} (hx : (Lit.int .i64 x).wf = true) (hy : (Lit.int .i64 y).wf = true) (hn : n < 1000000) :
    ∃ w', (Instr.mapUpdate 70 (.map (some b)) (.agg #[.int .i64 x, .int .i64 y]) (.agg #[])).run Try.prog w = .ok () w' ∧ Vals w' b (n + 1) (fun p => P p || (x == p.1 && y == p.2)) ∧ Only (fun k => k = b) w w' :=
  SetAt.store (x := (x, y)) h appIs Try.underlying70 ⟨hx, hy⟩ (by unfold maxLen; omega) (by simp) (fun p hp => by
    by_cases e : x = p.1
    · by_cases e2 : y = p.2
      · exact absurd (Prod.ext e.symm e2.symm) hp
      · simp [e2]
    · simp [e])
end Go.Proofs.Ytigmgkcojifbcaa.Keys

/- The sets that Check keeps: of numbers, and of values with their keys. -/
namespace Go.Proofs.Ytigmgkcojifbcaa.Keys
open Go.RowKit Go.Proofs.Ytigmgkcojifbcaa.Dig Go.Proofs.Ytigmgkcojifbcaa.Mem Go.Maps
set_option linter.unusedVariables false
set_option linter.unusedSimpArgs false

set_option maxRecDepth 100000 in
theorem rowEApp : (114 : TypeId) < Try.prog.types.size := of_decide_eq_true (by kernel_rfl)
theorem wideEApp : (match Try.prog.underlying 114 with | some (.array _ _) | some (.struct _) => true | _ => false) = true := by kernel_rfl
set_option maxRecDepth 100000 in
theorem lawEApp : Keyed Try.prog 114 := Keyed.of_law (deep_law_laid Frame.laidOut (m := 2) (by omega) rowEApp (by kernel_rfl) wideEApp)
theorem ktEApp : Try.prog.keyType 114 = true := by kernel_rfl
theorem cellsEApp : Try.prog.cellsOf 114 = 2 := by kernel_rfl
theorem keyEApp {k v : Int} (hk : (Lit.int .i64 k).wf = true) (hv : (Lit.int .i64 v).wf = true) : keyOf Try.prog 114 (.agg #[.int .i64 k, .int .i64 v]) = some (.string (keyBytes [.int .i64 k, .int .i64 v])) := by
  obtain ⟨m, hm⟩ := sizes
  unfold keyOf
  simp only [Try.underlying114]
  rw [if_pos (by simp [ktEApp, Value.formed, Try.underlying114, cellsEApp]), hm]
  simp [Program.keyLits, Try.underlying114, cellsEApp, cellsInt, Value.cells, go_sem, hk, hv, Try.underlying3]
theorem eappIs : KeyIs 114 appV appL appOk := ⟨lawEApp, fun x hx => keyEApp hx.1 hx.2, fun x y h => by simp [appV] at h; exact Prod.ext h.1 h.2⟩
def idV (n : Int) : Value := .int .i64 n
def idL (n : Int) : Lit := .int .i64 n
theorem keyId {n : Int} (hw : (Lit.int .i64 n).wf = true) : keyOf Try.prog 3 (idV n) = some (idL n) := by
  unfold keyOf idV idL
  simp [Try.underlying3, mapKey, hw]
theorem idIs : KeyIs 3 idV idL nameOk := ⟨int_keyed Try.underlying3, fun x hx => keyId hx, fun x y h => by simpa [idV] using h⟩
def Ids (w : World) (b n : Nat) (P : Int → Bool) : Prop := SetAt 3 idV idL nameOk w b n P
def EVals (w : World) (b n : Nat) (P : Int × Int → Bool) : Prop := SetAt 114 appV appL appOk w b n P
theorem Ids.keep {w w' : World} {b n : Nat} {P : Int → Bool} {S : Nat → Prop} (h : Ids w b n P) (ho : Only S w w') (hb : ¬ S b) : Ids w' b n P := SetAt.keep h ho hb
theorem EVals.keep {w w' : World} {b n : Nat} {P : Int × Int → Bool} {S : Nat → Prop} (h : EVals w b n P) (ho : Only S w w') (hb : ¬ S b) : EVals w' b n P := SetAt.keep h ho hb
theorem Ids.look {w : World} {b n : Nat} {P : Int → Bool} (h : Ids w b n P) {x : Int} (hx : (Lit.int .i64 x).wf = true) : (Instr.lookup 56 (.map (some b)) (.int .i64 x) true).run Try.prog w = .ok (.tuple #[.agg #[], .bool (P x)]) w := SetAt.look h idIs Try.underlying56 hx
theorem EVals.look {w : World} {b n : Nat} {P : Int × Int → Bool} (h : EVals w b n P) {x y : Int} (hx : (Lit.int .i64 x).wf = true) (hy : (Lit.int .i64 y).wf = true) : (Instr.lookup 57 (.map (some b)) (.agg #[.int .i64 x, .int .i64 y]) true).run Try.prog w = .ok (.tuple #[.agg #[], .bool (P (x, y))]) w := SetAt.look (x := (x, y)) h eappIs Try.underlying57 ⟨hx, hy⟩
theorem Ids.store {w : World} {b n : Nat} {P : Int → Bool} (h : Ids w b n P) {x : Int} (hx : (Lit.int .i64 x).wf = true) (hn : n < 1000000) :
    ∃ w', (Instr.mapUpdate 56 (.map (some b)) (.int .i64 x) (.agg #[])).run Try.prog w = .ok () w' ∧ Ids w' b (n + 1) (fun y => P y || x == y) ∧ Only (fun k => k = b) w w' :=
  SetAt.store h idIs Try.underlying56 hx (by unfold maxLen; omega) (by simp) (fun y hy => by simp [Ne.symm hy])
theorem EVals.store {w : World} {b n : Nat} {P : Int × Int → Bool} (h : EVals w b n P) {x y : Int} (hx : (Lit.int .i64 x).wf = true) (hy : (Lit.int .i64 y).wf = true) (hn : n < 1000000) :
    ∃ w', (Instr.mapUpdate 57 (.map (some b)) (.agg #[.int .i64 x, .int .i64 y]) (.agg #[])).run Try.prog w = .ok () w' ∧ EVals w' b (n + 1) (fun p => P p || (x == p.1 && y == p.2)) ∧ Only (fun k => k = b) w w' :=
  SetAt.store (x := (x, y)) h eappIs Try.underlying57 ⟨hx, hy⟩ (by unfold maxLen; omega) (by simp) (fun p hp => by
    by_cases e : x = p.1
    · by_cases e2 : y = p.2
      · exact absurd (Prod.ext e.symm e2.symm) hp
      · simp [e2]
    · simp [e])
end Go.Proofs.Ytigmgkcojifbcaa.Keys
