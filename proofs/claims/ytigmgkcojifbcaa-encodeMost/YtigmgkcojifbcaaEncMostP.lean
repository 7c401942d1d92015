/- The histories that EncodeMost puts together: so many transactions of one read each; and how they grow in memory. -/
import Derived.Test.YtigmgkcojifbcaaEncSize
import Derived.Test.YtigmgkcojifbcaaEncTxn
namespace Go.Proofs.Ytigmgkcojifbcaa.Hist
open Go.RowKit Go.Proofs.Ytigmgkcojifbcaa.Dig Go.Proofs.Ytigmgkcojifbcaa.Mem
set_option linter.unusedVariables false
set_option linter.unusedSimpArgs false

def mostO (vs : List Int) : OpM := ⟨true, 5, 0, vs⟩
def mostT (vs : List Int) (k : Nat) : TxnM := ⟨(k : Int), false, [mostO vs]⟩
def mostH (vs : List Int) : Nat → List TxnM
  | 0 => []
  | n + 1 => mostH vs n ++ [mostT vs n]
theorem mostH_len (vs : List Int) : ∀ n, (mostH vs n).length = n
  | 0 => rfl
  | n + 1 => by rw [mostH, List.length_append, mostH_len vs n]; rfl
theorem mostH_ops (vs : List Int) : ∀ n, opsN (mostH vs n) = n
  | 0 => rfl
  | n + 1 => by rw [mostH, opsN_app, mostH_ops vs n]; rfl
theorem mostH_mem (vs : List Int) : ∀ n t, t ∈ mostH vs n → ∃ k, k < n ∧ t = mostT vs k
  | 0, t, h => by cases h
  | n + 1, t, h => by
    rcases List.mem_append.1 h with q | q
    · obtain ⟨k, h1, h2⟩ := mostH_mem vs n t q
      exact ⟨k, by omega, h2⟩
    · exact ⟨n, by omega, List.mem_singleton.1 q⟩
theorem mostH_twin (vs : List Int) (n : Nat) : twinB (mostH vs n) (n : Int) = false := by
  unfold twinB
  rw [List.any_eq_false]
  intro t ht
  obtain ⟨k, hk, rfl⟩ := mostH_mem vs n t ht
  simp [mostT]
  omega
theorem mostH_valid {vs : List Int} (hv : ∀ x ∈ vs, mayN x) : ∀ n, n ≤ 1024 → Valid (mostH vs n)
  | 0, _ => Valid.nil
  | n + 1, h => by
    have ih := mostH_valid hv n (by omega)
    have h1 := Valid.txn (ab := false) ih (by rw [mostH_len]; omega) (id := (n : Int)) (by unfold mayN; omega) (mostH_twin vs n)
    have h2 := Valid.op (o := mostO vs) h1 (by simp) ⟨by unfold mayN; simp [mostO], .inl ⟨rfl, rfl, hv⟩⟩
    rw [addOp_at] at h2
    exact h2
theorem mostH_few {vs : List Int} {n : Nat} (hn : n ≤ 2000) (hv : vs.length ≤ 1000) : n ≤ 5000 ∧ opsN (mostH vs n) ≤ 5000 ∧ ∀ t ∈ mostH vs n, OpsFew' t.ops := by
  refine ⟨by omega, by rw [mostH_ops]; omega, fun t ht => ?_⟩
  obtain ⟨k, hk, rfl⟩ := mostH_mem vs n t ht
  refine ⟨by simp [mostT], fun o ho => ?_⟩
  obtain rfl := List.mem_singleton.1 ho
  show vs.length ≤ 1000000
  omega
def mostS (vs : List Int) : Nat → Nat
  | 0 => 0
  | n + 1 => mostS vs n + ((txt n).length + 9 + sizeN vs)
theorem mostH_size (vs : List Int) : ∀ n, sizeH (mostH vs n) = mostS vs n
  | 0 => rfl
  | n + 1 => by
    have e : sizeH (mostH vs (n + 1)) = sizeH (mostH vs n) + sizeT (mostT vs n) := by rw [mostH, sizeH, List.map_append, List.sum_append]; simp [sizeH]
    rw [e, mostH_size vs n, mostS]
    have : sizeT (mostT vs n) = (txt n).length + 9 + sizeN vs := by
      have e1 : sizeN [(n : Int)] = (txt n).length + 1 := by simp [sizeN]
      have e2 : sizeN [(5 : Int)] = 2 := by decide
      have e3 : sizeO (mostO vs) = 2 + sizeN [5] + sizeN vs := if_pos rfl
      show 2 + sizeN [(n : Int)] + 2 + (sizeO (mostO vs) + 0) = _
      rw [e1, e3, e2]
      omega
    rw [this]
theorem sizeN_rep (v x : Int) : ∀ n : Nat, sizeN (List.replicate n x) = ((txt x.toNat).length + 1) * n
  | 0 => by simp [sizeN]
  | n + 1 => by rw [List.replicate_succ, sizeN_cons, sizeN_rep v x n, Nat.mul_succ]; omega
theorem mostS_le (vs : List Int) (n : Nat) : mostS vs n ≤ n * (19 + sizeN vs) := by
  induction n with
  | zero => simp [mostS]
  | succ n ih =>
    have := (txt_len n).2
    rw [mostS, Nat.succ_mul]
    omega
/-- A transaction behind the others, in a row of the call's own; what they name lies in blocks of G, other ones than the row's. -/
structure Grow3 (G : Nat → Prop) (B : Nat) (w : World) (tv : Value) (ts : List TxnM) (rows : List (List Value)) : Prop where
  own : OwnC 48 3 B w tv rows
  all : AllAt (TxnAt (fun b => G b ∧ tv.ownBlock ≠ some b) w) rows ts
  g : ∀ b, tv.ownBlock = some b → G b
theorem Grow3.txns {G : Nat → Prop} {B : Nat} {w : World} {tv : Value} {ts : List TxnM} {rows : List (List Value)} (h : Grow3 G B w tv ts rows) : TxnsAt G w tv ts :=
  ⟨rows, h.own.row.mono (fun b q => h.g b q.2), h.all.mono fun _ _ q => q.mono fun b hb => hb.1⟩
theorem Grow3.keep {G : Nat → Prop} {B : Nat} {w w' : World} {tv : Value} {ts : List TxnM} {rows : List (List Value)} (h : Grow3 G B w tv ts rows) {S : Nat → Prop} (ho : Only S w w') (hs : ∀ b, G b → ¬ S b) : Grow3 G B w' tv ts rows :=
  ⟨h.own.keep ho (fun b q => hs b (h.g b q)), h.all.mono fun _ _ q => q.only ho (fun b hb => hs b hb.1), h.g⟩
theorem Grow3.nil (G : Nat → Prop) (B : Nat) (w : World) : Grow3 G B w (.slice none 0 0) [] [] := ⟨OwnC.nil _ _ _ _, AllAt.nil _, by simp [Value.ownBlock]⟩
theorem Grow3.push {G : Nat → Prop} {B : Nat} {w w1 w' : World} {tv tv' : Value} {ts : List TxnM} {rows : List (List Value)} {t : TxnM} {c : List Value} (h : Grow3 G B w tv ts rows) (h1 : Below w.heap.size w w1)
    (hc : TxnAt (fun b => G b ∧ tv.ownBlock ≠ some b ∧ b < w1.heap.size) w1 c t) (hown : OwnC 48 3 B w' tv' (rows ++ [c])) (ho : Only (fun k => tv.ownBlock = some k) w1 w') (hb : tv'.ownBlock = tv.ownBlock ∨ tv'.ownBlock = some w1.heap.size) (hG : G w1.heap.size) : Grow3 G B w' tv' (ts ++ [t]) (rows ++ [c]) := by
  refine ⟨hown, AllAt.append (h.all.mono fun d x q => ?_) (AllAt.one ?_), fun b q => ?_⟩
  · have q1 := (q.only (Only.of_below (S := fun _ => False) h1) (fun _ _ r => r)).lt
    exact (q1.only ho (fun b hb => hb.1.2)).mono fun b hb2 => ⟨hb2.1.1, fun e => by
      rcases hb with r | r
      · rw [r] at e; exact hb2.1.2 e
      · rw [r] at e; have := Option.some.inj e; omega⟩
  · exact (hc.only ho (fun b hb => hb.2.1)).mono fun b hb2 => ⟨hb2.1, fun e => by
      rcases hb with r | r
      · rw [r] at e; exact hb2.2.1 e
      · rw [r] at e; have := Option.some.inj e; omega⟩
  · rcases hb with r | r
    · rw [r] at q; exact h.g b q
    · rw [r] at q; have := Option.some.inj q; subst this; exact hG
end Go.Proofs.Ytigmgkcojifbcaa.Hist
