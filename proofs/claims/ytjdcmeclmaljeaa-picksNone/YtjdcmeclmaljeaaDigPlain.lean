/- Plain mathematics of numbers as bytes: what a row of digits is worth, the first place at which a number's text breaks off, and a number's text. It imports nothing of the program. -/
import Derived.WalkKit
namespace Go.Proofs.Ytjdcmeclmaljeaa.Dig

/-- Is c a digit? -/
def dgt (c : Int) : Bool := decide (48 ≤ c ∧ c ≤ 57)
/-- What m digits from a on are worth. -/
def val (z : Nat → Int) (a : Nat) : Nat → Int
  | 0 => 0
  | m + 1 => 10 * val z a m + (z (a + m) - 48)
/-- Are m digits from a on a number's text? -/
def okm (z : Nat → Int) (a m : Nat) : Bool := decide (1 ≤ m ∧ m ≤ 10 ∧ ¬ (1 < m ∧ z a = 48) ∧ val z a m ≤ 2147483647)

/-- The number from a on, m of whose digits have been gone over; f is fuel. -/
def scan (z : Nat → Int) (len a : Nat) : Nat → Nat → Int × Int × Bool
  | 0, m => if m = 0 then (0, (a : Int), false) else (val z a m, ((a + m : Nat) : Int), true)
  | f + 1, m => if a + m < len ∧ dgt (z (a + m)) = true then (if okm z a (m + 1) = true then scan z len a f (m + 1) else (0, ((a + m : Nat) : Int), false))
      else if m = 0 then (0, (a : Int), false) else (val z a m, ((a + m : Nat) : Int), true)
def parse (z : Nat → Int) (len : Nat) (at_ : Int) : Int × Int × Bool :=
  if at_ < 0 ∨ (len : Int) < at_ then (0, 0, false) else scan z len at_.toNat (len - at_.toNat) 0

theorem dgt_iff {c : Int} : dgt c = true ↔ 48 ≤ c ∧ c ≤ 57 := by unfold dgt; simp
theorem dgt_no {c : Int} : dgt c = false ↔ ¬ (48 ≤ c ∧ c ≤ 57) := by unfold dgt; simp
theorem okm_iff {z : Nat → Int} {a m : Nat} : okm z a m = true ↔ (1 ≤ m ∧ m ≤ 10 ∧ ¬ (1 < m ∧ z a = 48) ∧ val z a m ≤ 2147483647) := by unfold okm; exact decide_eq_true_iff

theorem val_bd (z : Nat → Int) (a : Nat) : ∀ m, (∀ j, j < m → dgt (z (a + j)) = true) → 0 ≤ val z a m ∧ val z a m < 10 ^ m
  | 0, _ => by simp [val]
  | m + 1, h => by
    have ih := val_bd z a m (fun j hj => h j (by omega))
    have hd := dgt_iff.1 (h m (by omega))
    simp only [val, Int.pow_succ]
    omega
theorem val_ge (z : Nat → Int) (a : Nat) : ∀ m, 49 ≤ z a → (∀ j, j < m + 1 → dgt (z (a + j)) = true) → 10 ^ m ≤ val z a (m + 1)
  | 0, h0, _ => by simp [val]; omega
  | m + 1, h0, h => by
    have ih := val_ge z a m h0 (fun j hj => h j (by omega))
    have hd := dgt_iff.1 (h (m + 1) (by omega))
    rw [val, Int.pow_succ]
    omega
theorem pow_le_of {n m : Nat} (h : n ≤ m) : (10 : Int) ^ n ≤ 10 ^ m := by
  have := Nat.pow_le_pow_right (n := 10) (by omega) h
  exact_mod_cast this
/-- What the program asks of one digit more is what makes one digit more a number's text. -/
theorem ok_step (z : Nat → Int) (a m : Nat) (hd : ∀ j, j < m + 1 → dgt (z (a + j)) = true) (hm : m = 0 ∨ okm z a m = true) :
    okm z a (m + 1) = true ↔ ¬ ((0 < m ∧ val z a m = 0) ∨ (2147483647 - (z (a + m) - 48)) / 10 < val z a m) := by
  have hdm := dgt_iff.1 (hd m (by omega))
  have bd := val_bd z a m (fun j hj => hd j (by omega))
  rw [okm_iff]
  rcases hm with rfl | hm
  · simp only [val]
    simp
    omega
  · rw [okm_iff] at hm
    obtain ⟨h1, h2, h3, h4⟩ := hm
    obtain ⟨k, rfl⟩ : ∃ k, m = k + 1 := ⟨m - 1, by omega⟩
    have hd0 := dgt_iff.1 (hd 0 (by omega))
    simp only [Nat.add_zero] at hd0
    by_cases h48 : z a = 48
    · have hk : k = 0 := by omega
      subst hk
      simp [val, h48]
    · have g := val_ge z a k (by omega) (fun j hj => hd j (by omega))
      have p1 : (1 : Int) ≤ 10 ^ k := pow_le_of (Nat.zero_le k)
      have g2 := val_ge z a (k + 1) (by omega) (fun j hj => hd j (by omega))
      simp only [val] at g g2 h4 ⊢
      constructor
      · intro h; omega
      · intro h
        refine ⟨by omega, ?_, by omega, by omega⟩
        by_cases hk : k + 1 ≤ 9
        · omega
        · exfalso
          have := pow_le_of (show 10 ≤ k + 1 by omega)
          have e : (10 : Int) ^ 10 = 10000000000 := by decide
          omega
theorem ok_bd {z : Nat → Int} {a m : Nat} (hd : ∀ j, j < m → dgt (z (a + j)) = true) (hm : m = 0 ∨ okm z a m = true) : 0 ≤ val z a m ∧ val z a m ≤ 2147483647 := by
  refine ⟨(val_bd z a m hd).1, ?_⟩
  rcases hm with rfl | hm
  · simp [val]
  · exact (okm_iff.1 hm).2.2.2

theorem scan_hit {z : Nat → Int} {len a m : Nat} (hlt : a + m < len) (hd : dgt (z (a + m)) = true) (hok : okm z a (m + 1) = true) : scan z len a (len - a - m) m = scan z len a (len - a - (m + 1)) (m + 1) := by
  obtain ⟨f, hf⟩ : ∃ f, len - a - m = f + 1 := ⟨len - a - m - 1, by omega⟩
  have e : len - a - (m + 1) = f := by omega
  rw [hf, e, scan, if_pos ⟨hlt, hd⟩, if_pos hok]
theorem scan_bad {z : Nat → Int} {len a m : Nat} (hlt : a + m < len) (hd : dgt (z (a + m)) = true) (hok : ¬ okm z a (m + 1) = true) : scan z len a (len - a - m) m = (0, ((a + m : Nat) : Int), false) := by
  obtain ⟨f, hf⟩ : ∃ f, len - a - m = f + 1 := ⟨len - a - m - 1, by omega⟩
  rw [hf, scan, if_pos ⟨hlt, hd⟩, if_neg hok]
theorem scan_end {z : Nat → Int} {len a m : Nat} (h : ¬ (a + m < len ∧ dgt (z (a + m)) = true)) : scan z len a (len - a - m) m = if m = 0 then (0, (a : Int), false) else (val z a m, ((a + m : Nat) : Int), true) := by
  cases hf : len - a - m with
  | zero => rw [scan]
  | succ f => rw [scan, if_neg h]
theorem parse_in {z : Nat → Int} {len a : Nat} (h : a ≤ len) : parse z len (a : Int) = scan z len a (len - a - 0) 0 := by
  unfold parse; rw [if_neg (by omega)]; simp
theorem parse_out {z : Nat → Int} {len : Nat} {at_ : Int} (h : at_ < 0 ∨ (len : Int) < at_) : parse z len at_ = (0, 0, false) := by
  unfold parse; rw [if_pos h]

/-! A number's text. -/
def txtF : Nat → Nat → List UInt8
  | 0, _ => []
  | f + 1, n => if n ≤ 9 then [UInt8.ofNat (48 + n)] else txtF f (n / 10) ++ [UInt8.ofNat (48 + n % 10)]
def txt (n : Nat) : List UInt8 := txtF 10 n
theorem txtF_fuel : ∀ (f g n : Nat), n < 10 ^ f → f ≤ g → 1 ≤ f → txtF g n = txtF f n
  | 0, _, _, _, _, h => by omega
  | 1, g + 1, n, hn, _, _ => by have : n ≤ 9 := by omega
                                simp [txtF, this]
  | f + 2, g + 1, n, hn, hg, _ => by
    rw [txtF, txtF]
    split
    · rfl
    · rw [txtF_fuel (f + 1) g (n / 10) (by rw [Nat.pow_succ] at hn; omega) (by omega) (by omega)]
  | _ + 1, 0, _, _, h, _ => by omega
theorem txt_small {n : Nat} (h : n ≤ 9) : txt n = [UInt8.ofNat (48 + n)] := by unfold txt; rw [txtF, if_pos h]
theorem txt_big {n : Nat} (h : 9 < n) (hm : n ≤ 2147483647) : txt n = txt (n / 10) ++ [UInt8.ofNat (48 + n % 10)] := by
  unfold txt
  rw [show txtF 10 n = if n ≤ 9 then [UInt8.ofNat (48 + n)] else txtF 9 (n / 10) ++ [UInt8.ofNat (48 + n % 10)] from rfl, if_neg (by omega), txtF_fuel 9 10 (n / 10) (by omega) (by omega) (by omega)]
theorem txtF_len : ∀ f n, (txtF f n).length ≤ f
  | 0, _ => by simp [txtF]
  | f + 1, n => by
    rw [txtF]; split
    · simp
    · have := txtF_len f (n / 10); simp; omega
theorem txt_len (n : Nat) : 1 ≤ (txt n).length ∧ (txt n).length ≤ 10 := by
  refine ⟨?_, txtF_len 10 n⟩
  show 1 ≤ (txtF 10 n).length
  rw [txtF]; split <;> simp
end Go.Proofs.Ytjdcmeclmaljeaa.Dig
