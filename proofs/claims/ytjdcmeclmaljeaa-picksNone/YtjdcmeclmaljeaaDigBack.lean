/- Plain mathematics: a number comes back from its text, and a list from its texts with blanks ahead. -/
import Derived.Test.YtjdcmeclmaljeaaDigList
namespace Go.Proofs.Ytjdcmeclmaljeaa.Dig
open Go.RowKit
set_option linter.unusedVariables false
set_option linter.unusedSimpArgs false

theorem val_mono (z : Nat → Int) (a : Nat) : ∀ m j, j ≤ m → (∀ i, i < m → dgt (z (a + i)) = true) → val z a j ≤ val z a m
  | 0, j, h, _ => by obtain rfl : j = 0 := by omega
                     exact Int.le_refl _
  | m + 1, j, h, hd => by
    by_cases e : j = m + 1
    · subst e; exact Int.le_refl _
    · have h1 := val_mono z a m j (by omega) (fun i hi => hd i (by omega))
      have h2 := (val_bd z a m (fun i hi => hd i (by omega))).1
      have h3 := dgt_iff.1 (hd m (by omega))
      simp only [val]; omega
theorem okm_mono {z : Nat → Int} {a m j : Nat} (h : okm z a m = true) (h1 : 1 ≤ j) (h2 : j ≤ m) (hd : ∀ i, i < m → dgt (z (a + i)) = true) : okm z a j = true := by
  rw [okm_iff] at h ⊢
  obtain ⟨q1, q2, q3, q4⟩ := h
  have := val_mono z a m j h2 hd
  refine ⟨h1, by omega, fun g => q3 ⟨by omega, g.2⟩, by omega⟩
theorem okm_one {z : Nat → Int} {a : Nat} (h : dgt (z a) = true) : okm z a 1 = true := by
  have := dgt_iff.1 h
  rw [okm_iff]; simp [val]; omega
/-- Of digits that end there the number is read to their end, if they are a number's text. -/
theorem parse_to {z : Nat → Int} {len a k : Nat} (hk : a + k ≤ len) (h1 : 1 ≤ k) (hok : okm z a k = true) (hd : ∀ i, i < k → dgt (z (a + i)) = true) (he : ¬ (a + k < len ∧ dgt (z (a + k)) = true)) :
    parse z len (a : Int) = (val z a k, ((a + k : Nat) : Int), true) := by
  rcases parse_spec z len a (by omega) with ⟨q, g1, g2, g3, g4, g5, g6⟩ | ⟨q, g2, g3, g4, g5, g6⟩
  · by_cases e : q < k
    · exact absurd ⟨by omega, hd q e⟩ g5
    · by_cases e' : k < q
      · exact absurd ⟨by omega, g4 k e'⟩ he
      · obtain rfl : q = k := by omega
        exact g6
  · exfalso
    rcases g5 with ⟨e, g⟩ | ⟨q1, q2, q3⟩
    · exact g ⟨by omega, by have := hd 0 (by omega); simpa using this⟩
    · by_cases e : q < k
      · exact q3 (okm_mono hok (by omega) (by omega) hd)
      · by_cases e' : k < q
        · exact he ⟨by omega, g4 k e'⟩
        · obtain rfl : q = k := by omega
          exact he ⟨q1, q2⟩

/-- A number's text, as numbers. -/
def txtI (n : Nat) : List Int := (txt n).map fun b => (b.toNat : Int)
theorem txtI_len (n : Nat) : (txtI n).length = (txt n).length := by simp [txtI]
theorem txtI_small {n : Nat} (h : n ≤ 9) : txtI n = [48 + (n : Int)] := by
  unfold txtI; rw [txt_small h]
  have : (UInt8.ofNat (48 + n)).toNat = 48 + n := by simp only [UInt8.toNat_ofNat']; omega
  simp only [List.map_cons, List.map_nil, this]; rfl
theorem txtI_big {n : Nat} (h : 9 < n) (hm : n ≤ 2147483647) : txtI n = txtI (n / 10) ++ [48 + ((n % 10 : Nat) : Int)] := by
  unfold txtI; rw [txt_big h hm]
  have : (UInt8.ofNat (48 + n % 10)).toNat = 48 + n % 10 := by simp only [UInt8.toNat_ofNat']; omega
  simp only [List.map_append, List.map_cons, List.map_nil, this]; rfl
theorem txt_back (z : Nat → Int) (a : Nat) : ∀ f n : Nat, n ≤ f → n ≤ 2147483647 → (∀ j, j < (txtI n).length → z (a + j) = (txtI n).getD j 0) →
    val z a (txtI n).length = n ∧ (∀ j, j < (txtI n).length → dgt (z (a + j)) = true) ∧ (1 < (txtI n).length → z a ≠ 48) := by
  intro f
  induction f with
  | zero =>
    intro n hn _ hz
    obtain rfl : n = 0 := by omega
    rw [txtI_small (by omega)] at hz ⊢
    have h0 := hz 0 (by simp)
    simp at h0
    refine ⟨by simp [val, h0], fun j hj => ?_, by simp⟩
    obtain rfl : j = 0 := by simpa using hj
    rw [Nat.add_zero, h0, dgt_iff]; omega
  | succ f ih =>
    intro n hn hm hz
    by_cases h9 : n ≤ 9
    · rw [txtI_small h9] at hz ⊢
      have h0 := hz 0 (by simp)
      simp at h0
      refine ⟨by simp [val, h0]; omega, fun j hj => ?_, by simp⟩
      obtain rfl : j = 0 := by simpa using hj
      rw [Nat.add_zero, h0, dgt_iff]; omega
    · have e := txtI_big (n := n) (by omega) hm
      rw [e] at hz ⊢
      have hl : (txtI (n / 10) ++ [48 + ((n % 10 : Nat) : Int)]).length = (txtI (n / 10)).length + 1 := by simp
      rw [hl] at hz ⊢
      obtain ⟨i1, i2, i3⟩ := ih (n / 10) (by omega) (by omega) (fun j hj => by
        rw [hz j (by omega), List.getD_eq_getElem?_getD, List.getD_eq_getElem?_getD, List.getElem?_append_left hj])
      have hlast := hz (txtI (n / 10)).length (by omega)
      rw [List.getD_eq_getElem?_getD, List.getElem?_append_right (by omega)] at hlast
      simp at hlast
      have hlen1 : 1 ≤ (txtI (n / 10)).length := by rw [txtI_len]; exact (txt_len _).1
      refine ⟨?_, fun j hj => ?_, fun _ => ?_⟩
      · rw [val, i1, hlast]; omega
      · by_cases ej : j = (txtI (n / 10)).length
        · rw [ej, hlast, dgt_iff]; omega
        · exact i2 j (by omega)
      · by_cases e1 : 1 < (txtI (n / 10)).length
        · exact i3 e1
        · have e2 : (txtI (n / 10)).length = 1 := by omega
          rw [e2] at i1
          simp [val] at i1
          omega
/-- A number comes back from its text. -/
theorem parse_back {z : Nat → Int} {len a n : Nat} (hn : n ≤ 2147483647) (hl : a + (txtI n).length ≤ len) (hz : ∀ j, j < (txtI n).length → z (a + j) = (txtI n).getD j 0)
    (he : a + (txtI n).length = len ∨ dgt (z (a + (txtI n).length)) = false) : parse z len (a : Int) = ((n : Int), ((a + (txtI n).length : Nat) : Int), true) := by
  obtain ⟨h1, h2, h3⟩ := txt_back z a n n (Nat.le_refl _) hn hz
  have hb := txt_len n
  rw [← txtI_len] at hb
  rw [parse_to hl hb.1 (okm_iff.2 ⟨hb.1, hb.2, fun g => h3 g.1 g.2, by rw [h1]; omega⟩) h2 (by rcases he with g | g <;> simp [g]), h1]

/-- Numbers' texts, a blank ahead of each. -/
def flat : List Int → List Int
  | [] => []
  | n :: l => 32 :: (txtI n.toNat ++ flat l)
theorem flat_append : ∀ l m : List Int, flat (l ++ m) = flat l ++ flat m
  | [], _ => rfl
  | n :: l, m => by simp [flat, flat_append l m]
theorem flat_len : ∀ l : List Int, l.length ≤ (flat l).length ∧ (flat l).length ≤ 11 * l.length
  | [] => by simp [flat]
  | n :: l => by
    have := flat_len l
    have := txt_len n.toNat
    rw [← txtI_len] at this
    simp [flat]; omega
/-- A list comes back from its texts. -/
theorem lscan_back {z : Nat → Int} {len : Nat} : ∀ (l acc : List Int) (p f : Nat), (∀ n ∈ l, 0 ≤ n ∧ n ≤ 2147483647) → p + (flat l).length ≤ len → len - p ≤ f → (∀ j, j < (flat l).length → z (p + j) = (flat l).getD j 0) →
    (p + (flat l).length = len ∨ (dgt (z (p + (flat l).length)) = false ∧ z (p + (flat l).length) ≠ 32)) → lscan z len f p acc = (acc ++ l, ((p + (flat l).length : Nat) : Int), true)
  | [], acc, p, f, _, hp, hf, hz, he => by
    simp only [flat, List.length_nil, Nat.add_zero, List.append_nil] at *
    exact lscan_stop hf (by intro g; rcases he with h | h; omega; exact h.2 g.2)
  | n :: l, acc, p, f, hl, hp, hf, hz, he => by
    have hn := hl n List.mem_cons_self
    obtain ⟨N, rfl⟩ : ∃ N : Nat, n = N := ⟨n.toNat, by omega⟩
    have hlen : (flat ((N : Int) :: l)).length = 1 + (txtI N).length + (flat l).length := by simp [flat]; omega
    have ht := txt_len N
    rw [← txtI_len] at ht
    rw [hlen] at hp hz he ⊢
    have hflat : flat ((N : Int) :: l) = 32 :: (txtI N ++ flat l) := by simp [flat]
    rw [hflat] at hz
    have h0 := hz 0 (by omega)
    simp at h0
    have hz1 : ∀ j, j < (txtI N).length → z (p + 1 + j) = (txtI N).getD j 0 := fun j hj => by
      have := hz (1 + j) (by omega)
      rw [← Nat.add_assoc] at this
      rw [this, List.getD_eq_getElem?_getD, List.getD_eq_getElem?_getD, Nat.add_comm 1 j, List.getElem?_cons_succ, List.getElem?_append_left hj]
    have hz2 : ∀ j, j < (flat l).length → z (p + 1 + (txtI N).length + j) = (flat l).getD j 0 := fun j hj => by
      have := hz ((txtI N).length + j + 1) (by omega)
      rw [show p + 1 + (txtI N).length + j = p + ((txtI N).length + j + 1) by omega, this, List.getD_eq_getElem?_getD, List.getD_eq_getElem?_getD, List.getElem?_cons_succ, List.getElem?_append_right (by omega)]
      simp
    have hpar := parse_back (z := z) (len := len) (a := p + 1) (n := N) (by omega) (by omega) hz1 (by
      cases l with
      | nil =>
        simp only [flat, List.length_nil, Nat.add_zero] at he
        rcases he with h | h
        · left; omega
        · right; rw [show p + 1 + (txtI N).length = p + (1 + (txtI N).length) by omega]; exact h.1
      | cons m l =>
        right
        have := hz2 0 (by simp [flat])
        simp [flat] at this
        rw [this]; rfl)
    rw [lscan_go hf ⟨by omega, h0⟩ (t := p + 1 + (txtI N).length) (n := (N : Int)) (by simpa using hpar)]
    rw [lscan_back l (acc ++ [(N : Int)]) (p + 1 + (txtI N).length) (f - 1) (fun m hm => hl m (List.mem_cons_of_mem _ hm)) (by omega) (by omega) hz2 (by
      rcases he with h | h
      · left; omega
      · right; rw [show p + 1 + (txtI N).length + (flat l).length = p + (1 + (txtI N).length + (flat l).length) by omega]; exact h)]
    simp
    omega
theorem lst_back {z : Nat → Int} {len : Nat} (l : List Int) (p : Nat) (hl : ∀ n ∈ l, 0 ≤ n ∧ n ≤ 2147483647) (hp : p + (flat l).length ≤ len) (hz : ∀ j, j < (flat l).length → z (p + j) = (flat l).getD j 0)
    (he : p + (flat l).length = len ∨ (dgt (z (p + (flat l).length)) = false ∧ z (p + (flat l).length) ≠ 32)) : lst z len (p : Int) = (l, ((p + (flat l).length : Nat) : Int), true) := by
  rw [lst_in (by omega), lscan_back l [] p (len - p) hl hp (Nat.le_refl _) hz he]; simp
end Go.Proofs.Ytjdcmeclmaljeaa.Dig
