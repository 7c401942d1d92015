/- What is read hangs only on what was looked at. -/
import Derived.Test.YtigmgkcojifbcaaReadsPlain
namespace Go.Proofs.Ytigmgkcojifbcaa.Dig
open Go.RowKit
set_option linter.unusedVariables false
set_option linter.unusedSimpArgs false

theorem val_congr {z z' : Nat → Int} {a : Nat} : ∀ k, (∀ i, i < k → z' (a + i) = z (a + i)) → val z' a k = val z a k
  | 0, _ => rfl
  | k + 1, h => by
    show 10 * val z' a k + (z' (a + k) - 48) = 10 * val z a k + (z (a + k) - 48)
    rw [val_congr k (fun i hi => h i (by omega)), h k (by omega)]
theorem okm_congr {z z' : Nat → Int} {a k : Nat} (h : ∀ i, i < k → z' (a + i) = z (a + i)) : okm z' a k = okm z a k := by
  unfold okm
  rw [val_congr k h]
  rcases Nat.eq_zero_or_pos k with rfl | hk
  · simp
  · have := h 0 hk
    rw [Nat.add_zero] at this
    rw [this]
theorem parse_bad {z : Nat → Int} {len a k : Nat} (hk : a + k ≤ len) (hok : k = 0 ∨ okm z a k = true) (hd : ∀ i, i < k → dgt (z (a + i)) = true)
    (he : (k = 0 ∧ ¬ (a < len ∧ dgt (z a) = true)) ∨ (a + k < len ∧ dgt (z (a + k)) = true ∧ ¬ okm z a (k + 1) = true)) : parse z len (a : Int) = (0, ((a + k : Nat) : Int), false) := by
  rcases parse_spec z len a (by omega) with ⟨q, g1, g2, g3, g4, g5, g6⟩ | ⟨q, g2, g3, g4, g5, g6⟩
  · exfalso
    rcases he with ⟨rfl, g⟩ | ⟨q1, q2, q3⟩
    · exact g ⟨by omega, by have := g4 0 (by omega); simpa using this⟩
    · by_cases e : q < k
      · exact g5 ⟨by omega, hd q e⟩
      · by_cases e' : k < q
        · exact q3 (okm_mono g3 (by omega) (by omega) g4)
        · obtain rfl : q = k := by omega
          exact g5 ⟨q1, q2⟩
  · by_cases e : q = k
    · rw [← e]; exact g6
    · exfalso
      rcases Nat.lt_or_gt_of_ne e with h | h
      · rcases g5 with ⟨rfl, g⟩ | ⟨q1, q2, q3⟩
        · exact g ⟨by omega, by have := hd 0 (by omega); simpa using this⟩
        · rcases hok with rfl | hok
          · omega
          · exact q3 (okm_mono hok (by omega) (by omega) hd)
      · rcases he with ⟨rfl, g⟩ | ⟨q1, q2, q3⟩
        · exact g ⟨by omega, by have := g4 0 (by omega); simpa using this⟩
        · rcases g3 with rfl | g3
          · omega
          · exact q3 (okm_mono g3 (by omega) (by omega) g4)
theorem parse_local {z z' : Nat → Int} {len len' a t : Nat} {n : Int} {ok : Bool} (ha : a ≤ len) (h : parse z len (a : Int) = (n, (t : Int), ok)) (hg : ∀ i, i ≤ t → z' i = z i) (ht : t < len) (ht' : t < len') :
    parse z' len' (a : Int) = (n, (t : Int), ok) := by
  rcases parse_spec z len a ha with ⟨k, g1, g2, g3, g4, g5, g6⟩ | ⟨k, g2, g3, g4, g5, g6⟩
  · rw [g6] at h
    simp at h
    obtain ⟨hn, ht2, rfl⟩ := h
    obtain rfl : t = a + k := by omega
    have hc : ∀ i, i < k → z' (a + i) = z (a + i) := fun i hi => hg _ (by omega)
    rw [parse_to (by omega) g1 (by rw [okm_congr hc]; exact g3) (fun i hi => by rw [hc i hi]; exact g4 i hi) (by rw [hg _ (Nat.le_refl _)]; intro q; exact g5 ⟨ht, q.2⟩), val_congr k hc, hn]
  · rw [g6] at h
    simp at h
    obtain ⟨rfl, ht2, rfl⟩ := h
    obtain rfl : t = a + k := by omega
    have hc : ∀ i, i < k → z' (a + i) = z (a + i) := fun i hi => hg _ (by omega)
    refine parse_bad (by omega) (by rw [okm_congr hc]; exact g3) (fun i hi => by rw [hc i hi]; exact g4 i hi) ?_
    rcases g5 with ⟨rfl, g⟩ | ⟨q1, q2, q3⟩
    · left
      have e0 := hg a (by omega)
      exact ⟨rfl, by rw [e0]; intro q; exact g ⟨by omega, q.2⟩⟩
    · right
      have hc1 : ∀ i, i < k + 1 → z' (a + i) = z (a + i) := fun i hi => hg _ (by omega)
      exact ⟨ht', by rw [hg _ (Nat.le_refl _)]; exact q2, by rw [okm_congr hc1]; exact q3⟩
theorem lscan_ge (z : Nat → Int) (len : Nat) : ∀ (f p : Nat) (acc : List Int), p ≤ len → ∃ (m : List Int) (t : Nat) (ok : Bool), p ≤ t ∧ t ≤ len ∧ lscan z len f p acc = (m, (t : Int), ok)
  | 0, p, acc, h => ⟨acc, p, true, Nat.le_refl _, h, rfl⟩
  | f + 1, p, acc, h => by
    by_cases g : p < len ∧ z p = 32
    · rcases parse_two z len (p + 1) (by omega) with ⟨n, u, h1, h2, _, _, hp⟩ | ⟨u, h1, h2, hp⟩
      · have hp' : parse z len ((p : Int) + 1) = (n, (u : Int), true) := hp
        obtain ⟨m, t, ok, g1, g2, g3⟩ := lscan_ge z len f u (acc ++ [n]) h2
        exact ⟨m, t, ok, by omega, g2, by rw [lscan, if_pos g, hp']; simpa using g3⟩
      · have hp' : parse z len ((p : Int) + 1) = (0, (u : Int), false) := hp
        exact ⟨[], u, false, by omega, h2, by rw [lscan, if_pos g, hp']; simp⟩
    · exact ⟨acc, p, true, Nat.le_refl _, h, by rw [lscan, if_neg g]⟩
theorem lscan_local {z z' : Nat → Int} {len len' : Nat} : ∀ (f f' p : Nat) (acc l : List Int) (t : Nat) (ok : Bool), p ≤ len → len - p ≤ f → len' - p ≤ f' → lscan z len f p acc = (l, (t : Int), ok) → (∀ i, i ≤ t → z' i = z i) → t < len → t < len' →
    lscan z' len' f' p acc = (l, (t : Int), ok)
  | 0, f', p, acc, l, t, ok, hp, hf, hf', h, hg, ht, ht' => by
    simp [lscan] at h
    omega
  | f + 1, f', p, acc, l, t, ok, hp, hf, hf', h, hg, ht, ht' => by
    obtain ⟨_, t2, _, hpt, _, h2⟩ := lscan_ge z len (f + 1) p acc hp
    have ett : t2 = t := by rw [h] at h2; simp at h2; omega
    subst ett
    by_cases g : p < len ∧ z p = 32
    · have g' : p < len' ∧ z' p = 32 := ⟨by omega, by rw [hg p hpt]; exact g.2⟩
      obtain ⟨g0, hg0⟩ : ∃ g0, f' = g0 + 1 := ⟨f' - 1, by omega⟩
      subst hg0
      rw [lscan, if_pos g] at h
      rw [lscan, if_pos g']
      rcases parse_two z len (p + 1) (by omega) with ⟨n, u, h1, h2', _, _, hpp⟩ | ⟨u, h1, h2', hpp⟩
      · have hp' : parse z len ((p : Int) + 1) = (n, (u : Int), true) := hpp
        rw [hp'] at h
        simp only [if_true, Int.toNat_natCast] at h
        obtain ⟨_, t3, _, hut, _, h3⟩ := lscan_ge z len f u (acc ++ [n]) h2'
        have e3 : t3 = t2 := by rw [h] at h3; simp at h3; omega
        have hl : parse z' len' ((p : Int) + 1) = (n, (u : Int), true) := parse_local (show p + 1 ≤ len by omega) hpp (fun i hi => hg i (by omega)) (by omega) (by omega)
        rw [hl]
        simp only [if_true, Int.toNat_natCast]
        exact lscan_local f g0 u _ l t2 ok h2' (by omega) (by omega) h hg ht ht'
      · have hp' : parse z len ((p : Int) + 1) = (0, (u : Int), false) := hpp
        rw [hp'] at h
        simp at h
        obtain ⟨rfl, hu, rfl⟩ := h
        have eu : u = t2 := by omega
        subst eu
        have hl : parse z' len' ((p : Int) + 1) = (0, (u : Int), false) := parse_local (show p + 1 ≤ len by omega) hpp (fun i hi => hg i (by omega)) (by omega) (by omega)
        rw [hl]
        simp
    · have e : t2 = p ∧ acc = l ∧ ok = true := by
        rw [lscan, if_neg g] at h
        simp at h
        exact ⟨by omega, h.1, by simpa using h.2.2⟩
      obtain ⟨rfl, rfl, rfl⟩ := e
      refine lscan_stop (by omega) ?_
      rintro ⟨q1, q2⟩
      exact g ⟨ht, by rw [← hg t2 (Nat.le_refl _)]; exact q2⟩
theorem lst_local {z z' : Nat → Int} {len len' a t : Nat} {l : List Int} {ok : Bool} (ha : a ≤ len) (h : lst z len (a : Int) = (l, (t : Int), ok)) (hg : ∀ i, i ≤ t → z' i = z i) (ht : t < len) (ht' : t < len') :
    lst z' len' (a : Int) = (l, (t : Int), ok) := by
  have hat : a ≤ t := by
    obtain ⟨_, t2, _, hpt, _, h2⟩ := lscan_ge z len (len - a) a [] ha
    rw [lst_in ha] at h
    rw [h] at h2
    simp at h2
    omega
  rw [lst_in ha] at h
  rw [lst_in (by omega)]
  exact lscan_local _ _ a [] l t ok ha (Nat.le_refl _) (Nat.le_refl _) h hg ht ht'
end Go.Proofs.Ytigmgkcojifbcaa.Dig
