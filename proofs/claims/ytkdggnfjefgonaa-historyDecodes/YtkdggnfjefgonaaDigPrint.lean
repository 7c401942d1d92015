/- Contracts of the program's and the document's ways to print a number: each answers the number's text, or the error, and writes nothing that was there. -/
import Derived.Test.YtkdggnfjefgonaaDigParse
import Derived.Laws.IdiomStrings
namespace Go.Proofs.Ytkdggnfjefgonaa.Dig
open Go.RowKit
set_option linter.unusedVariables false
set_option linter.unusedSimpArgs false

/-- How wide a number's text is; 0, if it has none. -/
def widthS (n : Int) : Int := if 0 ≤ n ∧ n ≤ 2147483647 then ((txt n.toNat).length : Int) else 0
theorem widthS_out {n : Int} (h : n < 0 ∨ 2147483647 < n) : widthS n = 0 := by unfold widthS; rw [if_neg (by omega)]
theorem widthS_in {n : Nat} (h : n ≤ 2147483647) : widthS (n : Int) = ((txt n).length : Int) := by unfold widthS; rw [if_pos (by omega)]; simp


def PrRel (N B : Nat) (w : World) (n i : Value) (wr : World) : Prop :=
  ∃ (j : Nat) (q : Int), j ≤ (txt N).length ∧ ((j = 0 ∧ i = .int .i64 (-1)) ∨ ∃ t : Nat, j = t + 1 ∧ i = .int .i64 (t : Int)) ∧ n = .int .i64 q ∧ 0 ≤ q ∧ q ≤ 2147483647 ∧ (0 < j → (txt q.toNat).length = j ∧ txt N = txt q.toNat ++ (txt N).drop j) ∧
    (∃ g : Nat → Int, (∀ t, t < 10 → wr.cell? ⟨B, t, none⟩ = some (.int .u8 (g t))) ∧ (∀ t, t < 10 → wr.frozen? ⟨B, t, none⟩ = false) ∧ (∀ t, j ≤ t → t < (txt N).length → g t = (((txt N).getD t 0).toNat : Int)) ∧ Below B w wr)

theorem toNat_dig (n : Nat) (h : n ≤ 9) : (UInt8.ofNat (48 + n)).toNat = 48 + n := by
  simp only [UInt8.toNat_ofNat']; omega
theorem txt_last {N q t : Nat} (hq : q ≤ 2147483647) (hl : (txt q).length = t + 1) (hN : txt N = txt q ++ (txt N).drop (t + 1)) :
    (((txt N).getD t 0).toNat = 48 + q % 10) ∧ (0 < t → (txt (q / 10)).length = t ∧ txt N = txt (q / 10) ++ (txt N).drop t) := by
  generalize hX : (txt N).drop (t + 1) = X at hN
  by_cases h9 : q ≤ 9
  · rw [txt_small h9] at hl hN
    simp at hl
    subst hl
    rw [hN]
    refine ⟨?_, by omega⟩
    simp
    rw [show 48 + q % 10 = 48 + q by omega, ← toNat_dig q h9]
    simp
  · rw [txt_big (by omega) hq] at hl hN
    simp at hl
    rw [hN]
    refine ⟨?_, fun _ => ⟨hl, ?_⟩⟩
    · rw [← toNat_dig (q % 10) (by omega)]
      simp [List.getD_eq_getElem?_getD, ← hl]
    · simp [← hl]
theorem PrRel.step {N B t : Nat} {q : Int} {w wr : World} {g : Nat → Int} (hj : t + 1 ≤ (txt N).length) (hL : (txt N).length ≤ 10) (hq0 : 0 ≤ q) (hq1 : q ≤ 2147483647)
    (hjq : 0 < t + 1 → (txt q.toNat).length = t + 1 ∧ txt N = txt q.toNat ++ (txt N).drop (t + 1)) (hc : ∀ t, t < 10 → wr.cell? ⟨B, t, none⟩ = some (.int .u8 (g t))) (hf : ∀ t, t < 10 → wr.frozen? ⟨B, t, none⟩ = false)
    (hg : ∀ s, t + 1 ≤ s → s < (txt N).length → g s = (((txt N).getD s 0).toNat : Int)) (hb : Below B w wr) :
    PrRel N B w (.int .i64 (q / 10)) (.int .i64 ((t : Int) - 1)) (wr.setCell ⟨B, t, none⟩ (.int .u8 (48 + q % 10))) := by
  obtain ⟨h1, h2⟩ := hjq (by omega)
  obtain ⟨e1, e2⟩ := txt_last (by omega) h1 h2
  refine ⟨t, q / 10, by omega, ?_, rfl, by omega, by omega, ?_, fun s => if s = t then 48 + q % 10 else g s, ?_, ?_, ?_, hb.setCell (Nat.le_refl _) _⟩
  · by_cases ht : t = 0
    · left; subst ht; exact ⟨rfl, rfl⟩
    · right; exact ⟨t - 1, by omega, by congr 1; omega⟩
  · intro ht
    have := e2 ht
    rw [show (q / 10).toNat = q.toNat / 10 by omega]
    exact this
  · intro s hs
    show _ = some (Value.int .u8 (if s = t then 48 + q % 10 else g s))
    by_cases e : s = t
    · subst e
      rw [World.cell?_setCell_same _ _ _ (hc s hs), if_pos rfl]
    · rw [World.cell?_setCell_other _ _ _ _ (fun q => e ((Addr.mk.inj q).2.1).symm), if_neg e]
      exact hc s hs
  · intro s hs
    rw [World.frozen?_setCell _ _ _ _]
    exact hf s hs
  · intro s hs1 hs2
    show (if s = t then 48 + q % 10 else g s) = _
    by_cases e : s = t
    · subst e
      rw [if_pos rfl, e1]
      omega
    · rw [if_neg e]
      exact hg s (by omega) hs2
theorem zero_cells (k : IntKind) : ∀ t, t < 10 → (#[Value.int k 0, Value.int k 0, Value.int k 0, Value.int k 0, Value.int k 0, Value.int k 0, Value.int k 0, Value.int k 0, Value.int k 0, Value.int k 0] : Array Value)[t]? = some (.int k 0)
  | 0, _ | 1, _ | 2, _ | 3, _ | 4, _ | 5, _ | 6, _ | 7, _ | 8, _ | 9, _ => rfl
  | _ + 10, h => by omega

/-- What Print tells: a text, and an error's number. -/
def printS (n : Int) : List UInt8 := if 0 ≤ n ∧ n ≤ 2147483647 then txt n.toNat else []
def errS (n : Int) : Int := if 0 ≤ n ∧ n ≤ 2147483647 then 0 else 2
theorem printS_in {N : Nat} (h : N ≤ 2147483647) : printS (N : Int) = txt N ∧ errS (N : Int) = 0 := by
  unfold printS errS; rw [if_pos (by omega), if_pos (by omega)]; simp
theorem printS_out {n : Int} (h : ¬ (0 ≤ n ∧ n ≤ 2147483647)) : printS n = [] ∧ errS n = 2 := by
  unfold printS errS; rw [if_neg h, if_neg h]; simp

end Go.Proofs.Ytkdggnfjefgonaa.Dig
