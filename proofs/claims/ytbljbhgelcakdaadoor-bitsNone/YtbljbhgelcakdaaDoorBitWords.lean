/- Sets as words of 64 bits: plain. -/
import Derived.Test.YtbljbhgelcakdaaDoorBitPlain
import Derived.Test.YtbljbhgelcakdaaDoorBitPop
namespace Go.Proofs.YtbljbhgelcakdaaDoor.Bit
set_option linter.unusedVariables false
set_option linter.unusedSimpArgs false

/-- The truths of the first n bits of words. -/
def bitsW (n : Nat) (ws : List Nat) : List Bool := (List.range n).map fun k => (ws.getD (k / 64) 0).testBit (k % 64)
theorem bitsW_length (n : Nat) (ws : List Nat) : (bitsW n ws).length = n := by simp [bitsW]
theorem bitsW_getD {n : Nat} {ws : List Nat} {k : Nat} (hk : k < n) : (bitsW n ws).getD k false = (ws.getD (k / 64) 0).testBit (k % 64) := by
  simp [bitsW, List.getD_eq_getElem?_getD, hk]
/-- One word turned in one bit. -/
theorem bitsW_set {n k x y : Nat} {ws : List Nat} {b : Bool} (hk : k < n) (hw : k / 64 < ws.length) (hx : ws.getD (k / 64) 0 = x) (hy : ∀ i, i < 64 → y.testBit i = if i = k % 64 then b else x.testBit i) : bitsW n (ws.set (k / 64) y) = (bitsW n ws).set k b := by
  refine ext_getD (by rw [List.length_set, bitsW_length, bitsW_length]) (fun j hj => ?_)
  rw [bitsW_length] at hj
  rw [bitsW_getD hj]
  by_cases e : j / 64 = k / 64
  · have e1 : (ws.set (k / 64) y).getD (j / 64) 0 = y := by rw [e, List.getD_eq_getElem?_getD, List.getElem?_set_self hw]; rfl
    rw [e1, hy _ (Nat.mod_lt _ (by omega))]
    by_cases e2 : j = k
    · subst e2
      rw [if_pos rfl, List.getD_eq_getElem?_getD, List.getElem?_set_self (by rw [bitsW_length]; exact hj)]
      rfl
    · have e3 : ¬ j % 64 = k % 64 := by omega
      rw [if_neg e3, List.getD_eq_getElem?_getD, List.getElem?_set_ne (fun q => e2 q.symm), ← List.getD_eq_getElem?_getD, bitsW_getD hj, e, hx]
  · have e1 : (ws.set (k / 64) y).getD (j / 64) 0 = ws.getD (j / 64) 0 := by rw [List.getD_eq_getElem?_getD, List.getElem?_set_ne (fun q => e q.symm), ← List.getD_eq_getElem?_getD]
    have e2 : j ≠ k := fun q => e (by rw [q])
    have e3 : ((bitsW n ws).set k b).getD j false = (bitsW n ws).getD j false := by rw [List.getD_eq_getElem?_getD, List.getElem?_set_ne (fun q => e2 q.symm), ← List.getD_eq_getElem?_getD]
    rw [e1, e3, bitsW_getD hj]
theorem or_bit (x k : Nat) : ∀ i, (x ||| 2 ^ k).testBit i = if i = k then true else x.testBit i := fun i => by
  rw [Nat.testBit_or, Nat.testBit_two_pow]
  by_cases e : k = i
  · subst e; simp
  · have e2 : ¬ i = k := fun q => e q.symm
    simp [e, e2]
/-- All words: bit by bit. -/
theorem bitsW_with {n : Nat} {ws us : List Nat} {m2 : List Bool} {how : Int} (h : ∀ k, k < n → (us.getD (k / 64) 0).testBit (k % 64) = withF how ((ws.getD (k / 64) 0).testBit (k % 64)) (hasB m2 k)) : bitsW n us = withB (bitsW n ws) m2 how := by
  refine ext_getD (by rw [withB_length, bitsW_length, bitsW_length]) (fun j hj => ?_)
  rw [bitsW_length] at hj
  rw [bitsW_getD hj, withB_getD _ _ _ j (by rw [bitsW_length]; exact hj), bitsW_getD hj, h j hj]
theorem bitsW_new (n c : Nat) : bitsW n (List.replicate c 0) = List.replicate n false := by
  refine ext_getD (by rw [bitsW_length, List.length_replicate]) (fun j hj => ?_)
  rw [bitsW_length] at hj
  rw [bitsW_getD hj, List.getD_eq_getElem?_getD, List.getElem?_replicate, List.getD_eq_getElem?_getD, List.getElem?_replicate, if_pos hj]
  split <;> simp
/-- The bits that are set, block by block. -/
theorem count_blocks (ws : List Nat) : ∀ c, c ≤ ws.length → ((List.range (64 * c)).filter fun k => (ws.getD (k / 64) 0).testBit (k % 64)).length = ((ws.take c).map (popK 64)).sum
  | 0, _ => by simp
  | c + 1, hc => by
    have ih := count_blocks ws c (by omega)
    rw [show 64 * (c + 1) = 64 * c + 64 by omega, List.range_add, List.filter_append, List.length_append, ih, List.take_add_one, List.getElem?_eq_getElem (by omega : c < ws.length)]
    rw [List.map_append, List.sum_append]
    congr 1
    rw [List.filter_map, List.length_map]
    have e : ∀ i, i < 64 → ((fun k => (ws.getD (k / 64) 0).testBit (k % 64)) ∘ fun i => 64 * c + i) i = ws[c].testBit i := fun i hi => by
      have e1 : (64 * c + i) / 64 = c := by omega
      have e2 : (64 * c + i) % 64 = i := by omega
      show (ws.getD ((64 * c + i) / 64) 0).testBit ((64 * c + i) % 64) = _
      rw [e1, e2, List.getD_eq_getElem?_getD, List.getElem?_eq_getElem (by omega : c < ws.length)]
      rfl
    rw [List.filter_congr (fun i hi => e i (List.mem_range.1 hi))]
    simp [popK]
/-- What lies behind n is not set. -/
def Tight (n : Nat) (ws : List Nat) : Prop := ∀ k, n ≤ k → (ws.getD (k / 64) 0).testBit (k % 64) = false
theorem count_words {n : Nat} {ws : List Nat} (hn : n ≤ 64 * ws.length) (ht : Tight n ws) : (listB (bitsW n ws)).length = (ws.map (popK 64)).sum := by
  have h := count_blocks ws ws.length (Nat.le_refl _)
  rw [List.take_length] at h
  rw [← h]
  unfold listB listN
  rw [List.length_map, bitsW_length]
  obtain ⟨d, hd⟩ : ∃ d, 64 * ws.length = n + d := ⟨64 * ws.length - n, by omega⟩
  rw [hd, List.range_add, List.filter_append, List.length_append]
  have e : ((List.range d).map (n + ·)).filter (fun k => (ws.getD (k / 64) 0).testBit (k % 64)) = [] := by
    rw [List.filter_eq_nil_iff]
    intro a ha
    obtain ⟨i, _, rfl⟩ := List.mem_map.1 ha
    rw [ht (n + i) (by omega)]
    simp
  rw [e, List.length_nil, Nat.add_zero]
  congr 1
  exact List.filter_congr (fun k hk => bitsW_getD (List.mem_range.1 hk))
theorem Tight.new (n c : Nat) : Tight n (List.replicate c 0) := fun k _ => by
  rw [List.getD_eq_getElem?_getD, List.getElem?_replicate]
  split <;> simp
theorem Tight.set {n k y x : Nat} {ws : List Nat} {b : Bool} (h : Tight n ws) (hk : k < n) (hw : k / 64 < ws.length) (hx : ws.getD (k / 64) 0 = x) (hy : ∀ i, i < 64 → y.testBit i = if i = k % 64 then b else x.testBit i) : Tight n (ws.set (k / 64) y) := fun j hj => by
  by_cases e : j / 64 = k / 64
  · have e1 : (ws.set (k / 64) y).getD (j / 64) 0 = y := by rw [e, List.getD_eq_getElem?_getD, List.getElem?_set_self hw]; rfl
    have e3 : ¬ j % 64 = k % 64 := by omega
    rw [e1, hy _ (Nat.mod_lt _ (by omega)), if_neg e3, ← hx, ← e]
    exact h j hj
  · rw [List.getD_eq_getElem?_getD, List.getElem?_set_ne (fun q => e q.symm), ← List.getD_eq_getElem?_getD]
    exact h j hj
/-- Two rows of truths are one if their lists are, and they are as long. -/
theorem listB_ext {m m2 : List Bool} (hl : m.length = m2.length) (h : listB m = listB m2) : m = m2 := by
  refine ext_getD hl (fun k hk => ?_)
  have e := @mem_listB m (k : Int)
  have e2 := @mem_listB m2 (k : Int)
  rw [h, hasB_nat] at e
  rw [hasB_nat] at e2
  cases h1 : m.getD k false with
  | true => exact (e2.1 (e.2 h1)).symm
  | false =>
    cases h2 : m2.getD k false with
    | false => rfl
    | true => rw [e.1 (e2.2 h2)] at h1; cases h1
/-- Lists of truths are one just if what is in them is. -/
theorem listB_congr {m m2 : List Bool} (h : ∀ x, hasB m x = hasB m2 x) : listB m = listB m2 := by
  have key : ∀ (a b : List Int), a.Pairwise (· < ·) → b.Pairwise (· < ·) → (∀ x, x ∈ a ↔ x ∈ b) → a = b := by
    intro a
    induction a with
    | nil =>
      intro b _ _ k
      cases b with
      | nil => rfl
      | cons y b => exact absurd ((k y).2 (by simp)) (by simp)
    | cons x a ih =>
      intro b ha hb k
      cases b with
      | nil => exact absurd ((k x).1 (by simp)) (by simp)
      | cons y b =>
        obtain ⟨ha1, ha2⟩ := List.pairwise_cons.1 ha
        obtain ⟨hb1, hb2⟩ := List.pairwise_cons.1 hb
        have exy : x = y := by
          rcases List.mem_cons.1 ((k x).1 (by simp)) with e | q
          · exact e
          · rcases List.mem_cons.1 ((k y).2 (by simp)) with e | r
            · exact e.symm
            · have := hb1 x q
              have := ha1 y r
              omega
        subst exy
        congr 1
        refine ih b ha2 hb2 (fun z => ⟨fun hz => ?_, fun hz => ?_⟩)
        · rcases List.mem_cons.1 ((k z).1 (List.mem_cons_of_mem _ hz)) with e | q
          · subst e; have := ha1 z hz; omega
          · exact q
        · rcases List.mem_cons.1 ((k z).2 (List.mem_cons_of_mem _ hz)) with e | q
          · subst e; have := hb1 z hz; omega
          · exact q
  exact key _ _ (listN_rising _ _) (listN_rising _ _) (fun x => by rw [mem_listB, mem_listB, h])
end Go.Proofs.YtbljbhgelcakdaaDoor.Bit
