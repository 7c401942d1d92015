/- Contracts of the program's and the document's ways to read a list of numbers, and of the document's Same. -/
import Derived.Test.YtjdcmeclmaljeaaDigParse
namespace Go.Proofs.Ytjdcmeclmaljeaa.Dig
open Go.RowKit
set_option linter.unusedVariables false
set_option linter.unusedSimpArgs false

/-- The numbers from place a on, each with a blank ahead, behind those of l; f is fuel. -/
def lscan (z : Nat → Int) (len : Nat) : Nat → Nat → List Int → List Int × Int × Bool
  | 0, a, l => (l, (a : Int), true)
  | f + 1, a, l => if a < len ∧ z a = 32 then
      (if (parse z len ((a : Int) + 1)).2.2 = true then lscan z len f (parse z len ((a : Int) + 1)).2.1.toNat (l ++ [(parse z len ((a : Int) + 1)).1]) else ([], (parse z len ((a : Int) + 1)).2.1, false))
      else (l, (a : Int), true)
def lst (z : Nat → Int) (len : Nat) (at_ : Int) : List Int × Int × Bool :=
  if at_ < 0 ∨ (len : Int) < at_ then ([], 0, false) else lscan z len (len - at_.toNat) at_.toNat []
theorem lst_in {z : Nat → Int} {len a : Nat} (h : a ≤ len) : lst z len (a : Int) = lscan z len (len - a) a [] := by
  unfold lst; rw [if_neg (by omega)]; simp
theorem lst_out {z : Nat → Int} {len : Nat} {at_ : Int} (h : at_ < 0 ∨ (len : Int) < at_) : lst z len at_ = ([], 0, false) := by
  unfold lst; rw [if_pos h]
theorem lscan_stop {z : Nat → Int} {len f a : Nat} {l : List Int} (hf : len - a ≤ f) (h : ¬ (a < len ∧ z a = 32)) : lscan z len f a l = (l, (a : Int), true) := by
  cases f with
  | zero => rfl
  | succ f => rw [lscan, if_neg h]
theorem lscan_bad {z : Nat → Int} {len f a : Nat} {l : List Int} {n t : Int} (hf : len - a ≤ f) (h : a < len ∧ z a = 32) (hp : parse z len ((a : Int) + 1) = (n, t, false)) : lscan z len f a l = ([], t, false) := by
  obtain ⟨g, rfl⟩ : ∃ g, f = g + 1 := ⟨f - 1, by omega⟩
  rw [lscan, if_pos h, hp]; simp
theorem lscan_go {z : Nat → Int} {len f a : Nat} {l : List Int} {n : Int} {t : Nat} (hf : len - a ≤ f) (h : a < len ∧ z a = 32) (hp : parse z len ((a : Int) + 1) = (n, (t : Int), true)) :
    lscan z len f a l = lscan z len (f - 1) t (l ++ [n]) := by
  obtain ⟨g, rfl⟩ : ∃ g, f = g + 1 := ⟨f - 1, by omega⟩
  rw [lscan, if_pos h, hp]; simp

/-- What a way to read a number ends with. -/
theorem scan_spec (z : Nat → Int) (len a : Nat) : ∀ f m, a + m ≤ len → len - a - m ≤ f → (∀ j, j < m → dgt (z (a + j)) = true) → (m = 0 ∨ okm z a m = true) →
    (∃ k, m ≤ k ∧ 1 ≤ k ∧ a + k ≤ len ∧ okm z a k = true ∧ (∀ j, j < k → dgt (z (a + j)) = true) ∧ ¬ (a + k < len ∧ dgt (z (a + k)) = true) ∧ scan z len a f m = (val z a k, ((a + k : Nat) : Int), true)) ∨
    (∃ k, m ≤ k ∧ a + k ≤ len ∧ (k = 0 ∨ okm z a k = true) ∧ (∀ j, j < k → dgt (z (a + j)) = true) ∧ ((k = 0 ∧ ¬ (a < len ∧ dgt (z a) = true)) ∨ (a + k < len ∧ dgt (z (a + k)) = true ∧ ¬ okm z a (k + 1) = true)) ∧ scan z len a f m = (0, ((a + k : Nat) : Int), false))
  | 0, m, hm, hf, hd, hok => by
    by_cases h0 : m = 0
    · right
      subst h0
      exact ⟨0, by omega, hm, .inl rfl, hd, .inl ⟨rfl, by omega⟩, by rw [scan]; simp⟩
    · left
      exact ⟨m, by omega, by omega, hm, by rcases hok with h | h; exact absurd h h0; exact h, hd, by omega, by rw [scan, if_neg h0]⟩
  | f + 1, m, hm, hf, hd, hok => by
    by_cases hg : a + m < len ∧ dgt (z (a + m)) = true
    · by_cases ho : okm z a (m + 1) = true
      · have hd' : ∀ j, j < m + 1 → dgt (z (a + j)) = true := fun j hj => by
          by_cases e : j = m
          · rw [e]; exact hg.2
          · exact hd j (by omega)
        have hs : scan z len a (f + 1) m = scan z len a f (m + 1) := by rw [scan, if_pos hg, if_pos ho]
        rw [hs]
        rcases scan_spec z len a f (m + 1) (by omega) (by omega) hd' (.inr ho) with ⟨k, h1, h2⟩ | ⟨k, h1, h2⟩
        · exact .inl ⟨k, by omega, h2⟩
        · exact .inr ⟨k, by omega, h2⟩
      · right
        exact ⟨m, by omega, hm, hok, hd, .inr ⟨hg.1, hg.2, ho⟩, by rw [scan, if_pos hg, if_neg ho]⟩
    · by_cases h0 : m = 0
      · right
        subst h0
        exact ⟨0, by omega, hm, .inl rfl, hd, .inl ⟨rfl, by simpa using hg⟩, by rw [scan, if_neg hg]; simp⟩
      · left
        exact ⟨m, by omega, by omega, hm, by rcases hok with h | h; exact absurd h h0; exact h, hd, hg, by rw [scan, if_neg hg, if_neg h0]⟩
theorem parse_spec (z : Nat → Int) (len a : Nat) (h : a ≤ len) :
    (∃ k, 1 ≤ k ∧ a + k ≤ len ∧ okm z a k = true ∧ (∀ j, j < k → dgt (z (a + j)) = true) ∧ ¬ (a + k < len ∧ dgt (z (a + k)) = true) ∧ parse z len (a : Int) = (val z a k, ((a + k : Nat) : Int), true)) ∨
    (∃ k, a + k ≤ len ∧ (k = 0 ∨ okm z a k = true) ∧ (∀ j, j < k → dgt (z (a + j)) = true) ∧ ((k = 0 ∧ ¬ (a < len ∧ dgt (z a) = true)) ∨ (a + k < len ∧ dgt (z (a + k)) = true ∧ ¬ okm z a (k + 1) = true)) ∧ parse z len (a : Int) = (0, ((a + k : Nat) : Int), false)) := by
  rw [parse_in h]
  rcases scan_spec z len a (len - a - 0) 0 (by omega) (by omega) (by omega) (.inl rfl) with ⟨k, _, h2⟩ | ⟨k, _, h2⟩
  · exact .inl ⟨k, h2⟩
  · exact .inr ⟨k, h2⟩
/-- Read a number from a place on: either a number and the place behind it, or the first wrong place. -/
theorem parse_two (z : Nat → Int) (len a : Nat) (h : a ≤ len) :
    (∃ (n : Int) (t : Nat), a < t ∧ t ≤ len ∧ 0 ≤ n ∧ n ≤ 2147483647 ∧ parse z len (a : Int) = (n, (t : Int), true)) ∨ (∃ t : Nat, a ≤ t ∧ t ≤ len ∧ parse z len (a : Int) = (0, (t : Int), false)) := by
  rcases parse_spec z len a h with ⟨k, h1, h2, h3, h4, h5, h6⟩ | ⟨k, h2, h3, h4, h5, h6⟩
  · have := ok_bd h4 (.inr h3)
    exact .inl ⟨_, a + k, by omega, h2, this.1, this.2, h6⟩
  · exact .inr ⟨a + k, by omega, h2, h6⟩

theorem lt_of_cell {w : World} {p : Addr} {v : Value} (h : w.cell? p = some v) : p.block < w.heap.size := by
  rcases Nat.lt_or_ge p.block w.heap.size with g | g
  · exact g
  · simp [World.cell?, Array.getElem?_eq_none g] at h
theorem Rd.keep {k : IntKind} {w w' : World} {a : Option Addr} {len : Nat} {z : Nat → Int} (h : Rd k w a len z) (hb : Below w.heap.size w w') : Rd k w' a len z := by
  refine ⟨h.1, fun i hi => ?_⟩
  obtain ⟨b, off, e, hc, hw⟩ := h.2 i hi
  exact ⟨b, off, e, by rw [hb.cell (lt_of_cell hc)]; exact hc, hw⟩
/-- What a row of the call's own holds, read. -/
theorem Rd.own {w : World} {base : Nat} {v : Value} {l : List Int} (h : w.ownsRow base 3 1 v l.length (l.map (Value.int .i64))) (hl : l.length ≤ 1000000000000) (hw : ∀ n ∈ l, (Lit.int .i64 n).wf = true) :
    ∃ a cap, v = .slice a l.length cap ∧ l.length ≤ cap ∧ Rd .i64 w a l.length (fun i => l.getD i 0) := by
  have h' := h
  obtain ⟨h1, h2⟩ := h
  rcases h2 with ⟨hv, h0⟩ | ⟨g, cap, cur, hv, hg, hh, hc1, hc2, hc3, hc4⟩
  · have : l = [] := by cases l with
      | nil => rfl
      | cons x l => simp at h0
    subst this
    exact ⟨none, 0, hv, by simp, by simp, fun i hi => by simp at hi⟩
  · refine ⟨_, cap, hv, hc1, hl, fun i hi => ⟨g, 0, rfl, ?_, ?_⟩⟩
    · subst hv
      rw [Nat.zero_add, h'.cellAt i (by omega)]
      simp [List.getD_eq_getElem?_getD, List.getElem?_eq_getElem hi]
    · simp only [List.getD_eq_getElem?_getD, List.getElem?_eq_getElem hi, Option.getD_some]
      exact hw _ (List.getElem_mem hi)

theorem one_new (w : World) (x : Value) (t : TypeId) : ∀ (j : Nat) (u : Value), [x][j]? = some u → (w.alloc (.cells #[x] t)).cell? ((⟨w.heap.size, 0, none⟩ : Addr).add j) = some u := by
  intro j u hj
  match j, hj with
  | 0, hj => simp at hj; subst hj; simp [Addr.add]

theorem wf_of_i64 {n : Int} (h0 : 0 ≤ n) (h1 : n ≤ 2147483647) : (Lit.int .i64 n).wf = true := WalkArith.wf_i64 (by omega)

def LRel (z : Nat → Int) (len a0 base : Nat) (w : World) (v a : Value) (wr : World) : Prop :=
  ∃ (at_ : Nat) (l : List Int) (f : Nat), at_ ≤ len ∧ a = .int .i64 (at_ : Int) ∧ wr.ownsRow base 3 1 v l.length (l.map (Value.int .i64)) ∧ Below base w wr ∧ len - at_ ≤ f ∧ l.length ≤ at_ ∧ (∀ n ∈ l, 0 ≤ n ∧ n ≤ 2147483647) ∧ Hid (lst z len (a0 : Int) = lscan z len f at_ l)
theorem LRel.push {z : Nat → Int} {len a0 base at_ f : Nat} {w w1 : World} {v1 : Value} {l : List Int} {n : Int} {t : Nat} (hlt : at_ < len) (h32 : z at_ = 32) (hp : parse z len ((at_ : Int) + 1) = (n, (t : Int), true)) (h1 : at_ < t) (h2 : t ≤ len) (hn : 0 ≤ n ∧ n ≤ 2147483647)
    (hf : len - at_ ≤ f) (hll : l.length ≤ at_) (hl : ∀ n ∈ l, 0 ≤ n ∧ n ≤ 2147483647) (hs : Hid (lst z len (a0 : Int) = lscan z len f at_ l)) (hown : w1.ownsRow base 3 1 v1 (l.length + 1) (l.map (Value.int .i64) ++ [.int .i64 n])) (hb : Below base w w1) :
    LRel z len a0 base w v1 (.int .i64 (t : Int)) w1 := by
  refine ⟨t, l ++ [n], f - 1, h2, rfl, ?_, hb, by omega, by simp; omega, ?_, hs.out.trans (lscan_go hf ⟨hlt, h32⟩ hp)⟩
  · rw [List.length_append, List.map_append]; exact hown
  · intro m hm
    rcases List.mem_append.1 hm with q | q
    · exact hl m q
    · simp at q; subst q; exact hn

theorem Try.info3 : (Try.prog.info? 3).map (fun i => (i.zero, i.size, i.bytes)) = some (some (.int .i64 0), 1, 8) := by kernel_rfl
end Go.Proofs.Ytjdcmeclmaljeaa.Dig
