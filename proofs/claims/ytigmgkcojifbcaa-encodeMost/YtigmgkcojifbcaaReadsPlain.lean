/- What stands where a number was read is the number's own text; and lists likewise. -/
import Derived.Test.YtigmgkcojifbcaaDigBack
import Derived.Test.YtigmgkcojifbcaaDigPrint
namespace Go.Proofs.Ytigmgkcojifbcaa.Dig
open Go.RowKit
set_option linter.unusedVariables false
set_option linter.unusedSimpArgs false

/-- What stands from a on, so many. -/
def sub (z : Nat → Int) (a k : Nat) : List Int := (List.range k).map fun j => z (a + j)
theorem sub_len (z : Nat → Int) (a k : Nat) : (sub z a k).length = k := by simp [sub]
theorem sub_succ (z : Nat → Int) (a k : Nat) : sub z a (k + 1) = sub z a k ++ [z (a + k)] := by simp [sub, List.range_succ]
theorem sub_add (z : Nat → Int) (a k : Nat) : ∀ l, sub z a (k + l) = sub z a k ++ sub z (a + k) l
  | 0 => by simp [sub]
  | l + 1 => by rw [← Nat.add_assoc, sub_succ, sub_add z a k l, sub_succ, List.append_assoc, Nat.add_assoc]
theorem sub_get (z : Nat → Int) (a k j : Nat) (h : j < k) : (sub z a k).getD j 0 = z (a + j) := by
  simp [sub, List.getD_eq_getElem?_getD, List.getElem?_map, h]
theorem text_back (z : Nat → Int) (a : Nat) : ∀ k, okm z a k = true → (∀ j, j < k → dgt (z (a + j)) = true) → txtI (val z a k).toNat = sub z a k
  | 0, h, _ => by rw [okm_iff] at h; omega
  | k + 1, h, hd => by
    have hl := dgt_iff.1 (hd k (by omega))
    have h' := okm_iff.1 h
    have hv : val z a (k + 1) = 10 * val z a k + (z (a + k) - 48) := rfl
    rcases Nat.eq_zero_or_pos k with rfl | hk
    · have h0 : val z a 0 = 0 := rfl
      rw [hv, h0]
      obtain ⟨d, hd0⟩ : ∃ d : Nat, z (a + 0) - 48 = d := ⟨(z (a + 0) - 48).toNat, by omega⟩
      rw [show (10 * (0 : Int) + (z (a + 0) - 48)).toNat = d by omega, txtI_small (by omega), sub_succ]
      simp [sub]
      rw [Nat.add_zero] at hd0
      omega
    · have hok : okm z a k = true := okm_mono h (by omega) (by omega) hd
      have ih := text_back z a k hok (fun j hj => hd j (by omega))
      have hz : 49 ≤ z a := by
        have := dgt_iff.1 (hd 0 (by omega))
        simp at this
        have := h'.2.2.1
        omega
      obtain ⟨m, rfl⟩ : ∃ m, k = m + 1 := ⟨k - 1, by omega⟩
      have hge := val_ge z a m hz (fun j hj => hd j (by omega))
      have h1 : (1 : Int) ≤ 10 ^ m := by have := pow_le_of (Nat.zero_le m); simpa using this
      obtain ⟨v, hv0⟩ : ∃ v : Nat, val z a (m + 1) = v := ⟨(val z a (m + 1)).toNat, by omega⟩
      obtain ⟨d, hd0⟩ : ∃ d : Nat, z (a + (m + 1)) - 48 = d := ⟨(z (a + (m + 1)) - 48).toNat, by omega⟩
      rw [hv0] at ih hge
      have hb := h'.2.2.2
      rw [hv, hv0, hd0] at hb ⊢
      rw [show (10 * (v : Int) + (d : Int)).toNat = 10 * v + d by omega, txtI_big (by omega) (by omega), show (10 * v + d) / 10 = v by omega, show (10 * v + d) % 10 = d by omega, sub_succ, ← ih]
      simp
      omega
theorem parse_text {z : Nat → Int} {len a : Nat} (h : a ≤ len) {n : Int} {t : Nat} (hp : parse z len (a : Int) = (n, (t : Int), true)) :
    a < t ∧ t ≤ len ∧ 0 ≤ n ∧ n ≤ 2147483647 ∧ txtI n.toNat = sub z a (t - a) := by
  rcases parse_spec z len a h with ⟨k, h1, h2, h3, h4, h5, h6⟩ | ⟨k, _, _, _, _, h6⟩
  · rw [hp] at h6
    simp at h6
    obtain ⟨rfl, ht⟩ := h6
    have hb := ok_bd h4 (.inr h3)
    obtain rfl : t = a + k := by omega
    rw [show a + k - a = k by omega]
    exact ⟨by omega, h2, hb.1, hb.2, text_back z a k h3 h4⟩
  · rw [hp] at h6; simp at h6
theorem lscan_text (z : Nat → Int) (len : Nat) : ∀ (f p : Nat) (acc : List Int), p ≤ len → ∀ (m : List Int) (t : Nat), lscan z len f p acc = (m, (t : Int), true) →
    ∃ m', m = acc ++ m' ∧ p ≤ t ∧ t ≤ len ∧ sub z p (t - p) = flat m' ∧ ∀ n ∈ m', 0 ≤ n ∧ n ≤ 2147483647
  | 0, p, acc, h, m, t, he => by
    simp [lscan] at he
    obtain ⟨rfl, ht⟩ := he
    exact ⟨[], by simp, by omega, by omega, by simp [show t - p = 0 by omega, sub, flat], by simp⟩
  | f + 1, p, acc, h, m, t, he => by
    rw [lscan] at he
    split at he
    · rename_i g
      split at he
      · rename_i hb
        rcases parse_two z len (p + 1) (by omega) with ⟨n, u, h1, h2, hn0, hn1, hp⟩ | ⟨u, h1, h2, hp⟩
        · have hp' : parse z len ((p : Int) + 1) = (n, (u : Int), true) := hp
          rw [hp'] at he
          simp at he
          obtain ⟨m', rfl, g1, g2, g3, g4⟩ := lscan_text z len f u (acc ++ [n]) h2 m t he
          have ht := (parse_text (by omega) hp).2.2.2.2
          refine ⟨n :: m', by simp, by omega, g2, ?_, ?_⟩
          · rw [show t - p = 1 + ((u - (p + 1)) + (t - u)) by omega, sub_add, sub_add, show p + 1 + (u - (p + 1)) = u by omega, g3, ← ht]
            simp [sub, flat, g.2]
          · intro x hx
            rcases List.mem_cons.1 hx with rfl | q
            · exact ⟨hn0, hn1⟩
            · exact g4 x q
        · have hp' : parse z len ((p : Int) + 1) = (0, (u : Int), false) := hp
          rw [hp'] at hb
          simp at hb
      · simp at he
    · simp at he
      obtain ⟨rfl, ht⟩ := he
      exact ⟨[], by simp, by omega, by omega, by simp [show t - p = 0 by omega, sub, flat], by simp⟩
theorem lst_text {z : Nat → Int} {len a : Nat} (h : a ≤ len) {m : List Int} {t : Nat} (hp : lst z len (a : Int) = (m, (t : Int), true)) :
    a ≤ t ∧ t ≤ len ∧ sub z a (t - a) = flat m ∧ ∀ n ∈ m, 0 ≤ n ∧ n ≤ 2147483647 := by
  rw [lst_in h] at hp
  obtain ⟨m', rfl, h1, h2, h3, h4⟩ := lscan_text z len _ _ _ h m t hp
  exact ⟨h1, h2, by simpa using h3, by simpa using h4⟩
/-- Bytes as numbers. -/
def bytesI (l : List UInt8) : List Int := l.map fun b => (b.toNat : Int)
theorem bytesI_app (l m : List UInt8) : bytesI (l ++ m) = bytesI l ++ bytesI m := by simp [bytesI]
theorem bytesI_len (l : List UInt8) : (bytesI l).length = l.length := by simp [bytesI]
theorem bytesI_txt (n : Nat) : bytesI (txt n) = txtI n := rfl
/-- Numbers' texts, a blank ahead of each, as bytes. -/
def flatB (l : List Int) : List UInt8 := l.flatMap fun n => 32 :: printS n
theorem flatB_snoc (l : List Int) (n : Int) : flatB (l ++ [n]) = flatB l ++ (32 :: printS n) := by simp [flatB]
theorem flatB_flat : ∀ l : List Int, (∀ n ∈ l, 0 ≤ n ∧ n ≤ 2147483647) → bytesI (flatB l) = flat l
  | [], _ => rfl
  | n :: l, h => by
    have hn := h n List.mem_cons_self
    have ih := flatB_flat l (fun x hx => h x (List.mem_cons_of_mem _ hx))
    have hp : printS n = txt n.toNat := by unfold printS; rw [if_pos hn]
    have e : flatB (n :: l) = 32 :: (printS n ++ flatB l) := by simp [flatB]
    rw [e, hp]
    show _ = 32 :: (txtI n.toNat ++ flat l)
    rw [← ih]
    simp [bytesI, txtI]
theorem flatB_take (l : List Int) (j : Nat) : (flatB (l.take j)).length ≤ (flatB l).length := by
  have : flatB l = flatB (l.take j) ++ flatB (l.drop j) := by
    unfold flatB
    rw [← List.flatMap_append, List.take_append_drop]
  rw [this]; simp
end Go.Proofs.Ytigmgkcojifbcaa.Dig
