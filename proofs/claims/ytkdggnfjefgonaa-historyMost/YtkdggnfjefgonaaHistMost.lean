/- A transaction of so many reads, and so many transactions: what the plain function tells of them. -/
import Derived.Test.YtkdggnfjefgonaaHistPlain
namespace Go.Proofs.Ytkdggnfjefgonaa.Hist
open Go.RowKit Go.Proofs.Ytkdggnfjefgonaa.Dig Go.Proofs.Ytkdggnfjefgonaa.Mem
set_option linter.unusedVariables false
set_option linter.unusedSimpArgs false

/-- One read 'r 5'. -/
def r5 : OpM := ⟨true, 5, 0, []⟩
def reads (k : Nat) : List TxnM := [⟨0, true, List.replicate k r5⟩]
theorem reads_opsN (k : Nat) : opsN (reads k) = k := by simp [opsN, reads]
theorem reads_add (k : Nat) : addOp (reads k) r5 = reads (k + 1) := by
  simp [addOp, reads, List.replicate_succ']
/-- z has a transaction of n reads. -/
def ReadsZ (z : Nat → Int) (n : Nat) : Prop :=
  (z 0 = 116 ∧ z 1 = 32 ∧ z 2 = 48 ∧ z 3 = 32 ∧ z 4 = 97 ∧ z 5 = 10) ∧ ∀ k, k < n → z (6 + 4 * k) = 114 ∧ z (6 + 4 * k + 1) = 32 ∧ z (6 + 4 * k + 2) = 53 ∧ z (6 + 4 * k + 3) = 10
theorem isB_yes {z : Nat → Int} {len i : Nat} {x : Int} (h : i < len) (e : z i = x) : isB z len i x = true := isB_iff.2 ⟨h, e⟩
theorem parse_one {z : Nat → Int} {len a : Nat} (h : a + 1 < len) (hd : dgt (z a) = true) (he : dgt (z (a + 1)) = false) : parse z len (a : Int) = (z a - 48, ((a + 1 : Nat) : Int), true) := by
  have := parse_to (z := z) (len := len) (a := a) (k := 1) (by omega) (Nat.le_refl _) (okm_one hd) (fun i hi => (show i = 0 by omega) ▸ hd) (by rw [he]; simp)
  rw [this]
  simp [val]
theorem line_first {z : Nat → Int} {n : Nat} {most : Int} (h : ReadsZ z n) : lineS z (6 + 4 * n) most [] 0 = ⟨reads 0, 6, 0, 0⟩ := by
  obtain ⟨⟨z0, z1, z2, z3, z4, z5⟩, _⟩ := h
  have hp : parse z (6 + 4 * n) ((0 + 2 : Nat) : Int) = (0, ((3 : Nat) : Int), true) := by
    have := parse_one (z := z) (len := 6 + 4 * n) (a := 2) (by omega) (by rw [z2]; decide) (by rw [z3]; decide)
    rw [z2] at this
    exact this
  have b1 : isB z (6 + 4 * n) (0 + 1) 32 = true := isB_yes (by omega) z1
  have b2 : isB z (6 + 4 * n) 3 32 = true := isB_yes (by omega) z3
  have b3 : isB z (6 + 4 * n) (3 + 1) 97 = true := isB_yes (by omega) z4
  have b4 : isB z (6 + 4 * n) (3 + 2) 10 = true := isB_yes (by omega) z5
  have z4' : z (3 + 1) = 97 := z4
  unfold lineS
  rw [if_pos z0]
  unfold txnS
  rw [hp, b1]
  simp [twinB, txnT, b2, b3, b4, z4', reads]
theorem line_read {z : Nat → Int} {n k : Nat} {most : Int} (h : ReadsZ z n) (hk : k < n) (hm : (k : Int) < most) : lineS z (6 + 4 * n) most (reads k) (6 + 4 * k) = ⟨reads (k + 1), 6 + 4 * (k + 1), 0, 0⟩ := by
  obtain ⟨z0, z1, z2, z3⟩ := h.2 k hk
  have hp : parse z (6 + 4 * n) ((6 + 4 * k + 2 : Nat) : Int) = (5, ((6 + 4 * k + 3 : Nat) : Int), true) := by
    have := parse_one (z := z) (len := 6 + 4 * n) (a := 6 + 4 * k + 2) (by omega) (by rw [z2]; decide) (by rw [z3]; decide)
    rw [z2] at this
    exact this
  have hl : lst z (6 + 4 * n) ((6 + 4 * k + 3 : Nat) : Int) = ([], ((6 + 4 * k + 3 : Nat) : Int), true) := by
    rw [lst_in (by omega)]
    exact lscan_stop (Nat.le_refl _) (by rw [z3]; simp)
  have b1 : isB z (6 + 4 * n) (6 + 4 * k + 1) 32 = true := isB_yes (by omega) z1
  have b2 : isB z (6 + 4 * n) (6 + 4 * k + 3) 10 = true := isB_yes (by omega) z3
  have ho : ¬ most ≤ (opsN (reads k) : Int) := by rw [reads_opsN]; omega
  unfold lineS
  rw [if_neg (by rw [z0]; decide), if_pos (.inr z0)]
  unfold opS
  rw [if_neg (by simp [reads]), if_neg ho, b1, hp, if_neg (by simp), if_neg (by simp), if_pos z0]
  simp only [Int.toNat_natCast]
  unfold readT
  rw [hl, if_neg (by simp)]
  simp only [Int.toNat_natCast]
  unfold endL
  rw [b2, if_neg (by simp)]
  show LineR.mk (addOp (reads k) r5) _ _ _ = _
  rw [reads_add]
  rfl
theorem line_over {z : Nat → Int} {n k : Nat} {most : Int} (h : ReadsZ z n) (hk : k < n) (hm : most ≤ (k : Int)) : lineS z (6 + 4 * n) most (reads k) (6 + 4 * k) = ⟨reads k, 0, 3, ((6 + 4 * k : Nat) : Int)⟩ := by
  obtain ⟨z0, z1, z2, z3⟩ := h.2 k hk
  unfold lineS
  rw [if_neg (by rw [z0]; decide), if_pos (.inr z0)]
  unfold opS
  rw [if_neg (by simp [reads]), if_pos (by rw [reads_opsN]; exact hm)]
theorem decL_reads {z : Nat → Int} {n : Nat} {most : Nat} (h : ReadsZ z n) : ∀ (d k f : Nat), n - k = d → k ≤ n → k ≤ most → 6 + 4 * n - (6 + 4 * k) ≤ f →
    decL z (6 + 4 * n) (most : Int) f (reads k) (6 + 4 * k) = if most < n then ([], 3, ((6 + 4 * most : Nat) : Int)) else (reads n, 0, 0)
  | 0, k, f, hd, hk, hm, hf => by
    obtain rfl : k = n := by omega
    rw [decL_done (Nat.le_refl _), if_neg (by omega)]
  | d + 1, k, f, hd, hk, hm, hf => by
    obtain ⟨g, hg⟩ : ∃ g, f = g + 1 := ⟨f - 1, by omega⟩
    subst hg
    rw [decL, if_pos (by omega)]
    by_cases e : k = most
    · subst e
      rw [line_over h (by omega) (by omega), if_neg (by show ¬ (3 : Int) = 0; decide), if_pos (by omega)]
    · rw [line_read h (by omega) (by omega), if_pos rfl]
      exact decL_reads h d (k + 1) g (by omega) (by omega) (by omega) (by omega)
/-- A transaction of n reads, where there may be so many operations. -/
theorem decS_reads {z : Nat → Int} {n most : Nat} (h : ReadsZ z n) (hn : n ≤ 5000) (hm : most ≤ 4096) : decS z (6 + 4 * n) (most : Int) = if most < n then ([], 3, ((6 + 4 * most : Nat) : Int)) else (reads n, 0, 0) := by
  unfold decS
  rw [if_neg (by omega), if_neg (by omega)]
  obtain ⟨f, hf⟩ : ∃ f, 6 + 4 * n = f + 1 := ⟨5 + 4 * n, by omega⟩
  rw [show decL z (6 + 4 * n) (most : Int) (6 + 4 * n) [] 0 = decL z (6 + 4 * n) (most : Int) (f + 1) [] 0 by rw [← hf], decL, if_pos (by omega), line_first h, if_pos rfl]
  exact decL_reads h n 0 f (by omega) (by omega) (by omega) (by omega)

/-- z has n transactions without operations. -/
def TxnsZ (z : Nat → Int) (n : Nat) : Prop :=
  ∀ k, k < n → z (9 * k) = 116 ∧ z (9 * k + 1) = 32 ∧ z (9 * k + 2) = 49 + (k / 1000 : Nat) ∧ z (9 * k + 3) = 48 + (k / 100 % 10 : Nat) ∧ z (9 * k + 4) = 48 + (k / 10 % 10 : Nat) ∧ z (9 * k + 5) = 48 + (k % 10 : Nat) ∧ z (9 * k + 6) = 32 ∧ z (9 * k + 7) = 99 ∧ z (9 * k + 8) = 10
def txns (k : Nat) : List TxnM := (List.range k).map fun i : Nat => ⟨1000 + (i : Int), false, []⟩
theorem txns_succ (k : Nat) : txns (k + 1) = txns k ++ [⟨1000 + (k : Int), false, []⟩] := by simp [txns, List.range_succ]
theorem txns_twin (k : Nat) : twinB (txns k) (1000 + (k : Int)) = false := by
  unfold twinB txns
  rw [List.any_eq_false]
  intro t ht
  obtain ⟨i, hi, rfl⟩ := List.mem_map.1 ht
  have := List.mem_range.1 hi
  simp
  omega
theorem line_txn {z : Nat → Int} {n k : Nat} {most : Int} (h : TxnsZ z n) (hk : k < n) (hk5 : k < 1024) : lineS z (9 * n) most (txns k) (9 * k) = ⟨txns (k + 1), 9 * (k + 1), 0, 0⟩ := by
  obtain ⟨z0, z1, z2, z3, z4, z5, z6, z7, z8⟩ := h k hk
  have hd : ∀ i, i < 4 → dgt (z (9 * k + 2 + i)) = true := by
    intro i hi
    rw [dgt_iff]
    rcases (show i = 0 ∨ i = 1 ∨ i = 2 ∨ i = 3 by omega) with rfl | rfl | rfl | rfl
    · rw [Nat.add_zero, z2]; omega
    · rw [show 9 * k + 2 + 1 = 9 * k + 3 by omega, z3]; omega
    · rw [show 9 * k + 2 + 2 = 9 * k + 4 by omega, z4]; omega
    · rw [show 9 * k + 2 + 3 = 9 * k + 5 by omega, z5]; omega
  have hv : val z (9 * k + 2) 4 = 1000 + (k : Int) := by
    show 10 * (10 * (10 * (10 * 0 + (z (9 * k + 2 + 0) - 48)) + (z (9 * k + 2 + 1) - 48)) + (z (9 * k + 2 + 2) - 48)) + (z (9 * k + 2 + 3) - 48) = _
    rw [Nat.add_zero, show 9 * k + 2 + 1 = 9 * k + 3 by omega, show 9 * k + 2 + 2 = 9 * k + 4 by omega, show 9 * k + 2 + 3 = 9 * k + 5 by omega, z2, z3, z4, z5]
    omega
  have hp : parse z (9 * n) ((9 * k + 2 : Nat) : Int) = (1000 + (k : Int), ((9 * k + 6 : Nat) : Int), true) := by
    have := parse_to (z := z) (len := 9 * n) (a := 9 * k + 2) (k := 4) (by omega) (by omega) (okm_iff.2 ⟨by omega, by omega, by rw [z2]; omega, by rw [hv]; omega⟩) hd (by rw [show 9 * k + 2 + 4 = 9 * k + 6 by omega, z6]; simp [dgt])
    rw [hv] at this
    exact this
  have b1 : isB z (9 * n) (9 * k + 1) 32 = true := isB_yes (by omega) z1
  have b2 : isB z (9 * n) (9 * k + 6) 32 = true := isB_yes (by omega) z6
  have b3 : isB z (9 * n) (9 * k + 6 + 1) 99 = true := isB_yes (by omega) z7
  have b4 : isB z (9 * n) (9 * k + 6 + 2) 10 = true := isB_yes (by omega) z8
  have z7' : z (9 * k + 6 + 1) = 99 := z7
  have hl : (txns k).length = k := by simp [txns]
  unfold lineS
  rw [if_pos z0]
  unfold txnS
  rw [if_neg (by rw [hl]; omega), b1, hp, if_neg (by simp), if_neg (by simp), txns_twin, if_neg (by simp)]
  simp only [Int.toNat_natCast]
  unfold txnT
  rw [b2, if_neg (by simp), b3, if_neg (by simp), b4, if_neg (by simp), z7', txns_succ]
  rfl
theorem line_many {z : Nat → Int} {n : Nat} {most : Int} (h : TxnsZ z n) (hn : 1024 < n) : lineS z (9 * n) most (txns 1024) (9 * 1024) = ⟨txns 1024, 0, 3, ((9 * 1024 : Nat) : Int)⟩ := by
  obtain ⟨z0, _⟩ := h 1024 hn
  unfold lineS
  rw [if_pos z0]
  unfold txnS
  rw [if_pos (by simp [txns])]
theorem decL_txns {z : Nat → Int} {n : Nat} {most : Int} (h : TxnsZ z n) : ∀ (d k f : Nat), n - k = d → k ≤ n → k ≤ 1024 → 9 * n - 9 * k ≤ f →
    decL z (9 * n) most f (txns k) (9 * k) = if 1024 < n then ([], 3, ((9 * 1024 : Nat) : Int)) else (txns n, 0, 0)
  | 0, k, f, hd, hk, hm, hf => by
    obtain rfl : k = n := by omega
    rw [decL_done (Nat.le_refl _), if_neg (by omega)]
  | d + 1, k, f, hd, hk, hm, hf => by
    obtain ⟨g, hg⟩ : ∃ g, f = g + 1 := ⟨f - 1, by omega⟩
    subst hg
    rw [decL, if_pos (by omega)]
    by_cases e : k = 1024
    · subst e
      rw [line_many h (by omega), if_neg (by show ¬ (3 : Int) = 0; decide), if_pos (by omega)]
    · rw [line_txn h (by omega) (by omega), if_pos rfl]
      exact decL_txns h d (k + 1) g (by omega) (by omega) (by omega) (by omega)
/-- So many transactions without operations. -/
theorem decS_txns {z : Nat → Int} {n most : Nat} (h : TxnsZ z n) (hn : n ≤ 5000) (hm : most ≤ 4096) : decS z (9 * n) (most : Int) = if 1024 < n then ([], 3, ((9 * 1024 : Nat) : Int)) else (txns n, 0, 0) := by
  unfold decS
  rw [if_neg (by omega), if_neg (by omega)]
  exact decL_txns h n 0 (9 * n) (by omega) (by omega) (by omega) (by omega)
end Go.Proofs.Ytkdggnfjefgonaa.Hist
