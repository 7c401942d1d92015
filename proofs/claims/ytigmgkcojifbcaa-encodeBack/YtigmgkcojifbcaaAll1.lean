/- Joined out of the texts DigPlain, DigParse, Frame, DigList, in that order. -/
import Derived.WalkKit
import Derived.Test.YtigmgkcojifbcaaRows
import Derived.Handy
import Derived.ProofKit
import Derived.OpenShut
import Derived.ShutString
import Derived.ChangeOld
import Derived.Below
/- Plain mathematics of numbers as bytes: what a row of digits is worth, the first place at which a number's text breaks off, and a number's text. It imports nothing of the program. -/
namespace Go.Proofs.Ytigmgkcojifbcaa.Dig

/-- Is c a digit? -/
def dgt (c : Int) : Bool := decide (48 ≤ c ∧ c ≤ 57)
/-- What m digits from a on are worth. -/
def val (z : Nat → Int) (a : Nat) : Nat → Int
  | 0 => 0
  | m + 1 => 10 * val z a m + (z (a + m) - 48)
/-- Are m digits from a on a number's text? -/
def okm (z : Nat → Int) (a m : Nat) : Bool := decide (1 ≤ m ∧ m ≤ 10 ∧ ¬ (1 < m ∧ z a = 48) ∧ val z a m ≤ 2147483647)

/-- The number from a on, m of whose digits have been gone over; f is fuel. -/
def scan (z : Nat → Int) (len a : Nat) : Nat → Nat → Int × Int × Bool
  | 0, m => if m = 0 then (0, (a : Int), false) else (val z a m, ((a + m : Nat) : Int), true)
  | f + 1, m => if a + m < len ∧ dgt (z (a + m)) = true then (if okm z a (m + 1) = true then scan z len a f (m + 1) else (0, ((a + m : Nat) : Int), false))
      else if m = 0 then (0, (a : Int), false) else (val z a m, ((a + m : Nat) : Int), true)
def parse (z : Nat → Int) (len : Nat) (at_ : Int) : Int × Int × Bool :=
  if at_ < 0 ∨ (len : Int) < at_ then (0, 0, false) else scan z len at_.toNat (len - at_.toNat) 0

theorem dgt_iff {c : Int} : dgt c = true ↔ 48 ≤ c ∧ c ≤ 57 := by unfold dgt; simp
theorem dgt_no {c : Int} : dgt c = false ↔ ¬ (48 ≤ c ∧ c ≤ 57) := by unfold dgt; simp
theorem okm_iff {z : Nat → Int} {a m : Nat} : okm z a m = true ↔ (1 ≤ m ∧ m ≤ 10 ∧ ¬ (1 < m ∧ z a = 48) ∧ val z a m ≤ 2147483647) := by unfold okm; exact decide_eq_true_iff

theorem val_bd (z : Nat → Int) (a : Nat) : ∀ m, (∀ j, j < m → dgt (z (a + j)) = true) → 0 ≤ val z a m ∧ val z a m < 10 ^ m
  | 0, _ => by simp [val]
  | m + 1, h => by
    have ih := val_bd z a m (fun j hj => h j (by omega))
    have hd := dgt_iff.1 (h m (by omega))
    simp only [val, Int.pow_succ]
    omega
theorem val_ge (z : Nat → Int) (a : Nat) : ∀ m, 49 ≤ z a → (∀ j, j < m + 1 → dgt (z (a + j)) = true) → 10 ^ m ≤ val z a (m + 1)
  | 0, h0, _ => by simp [val]; omega
  | m + 1, h0, h => by
    have ih := val_ge z a m h0 (fun j hj => h j (by omega))
    have hd := dgt_iff.1 (h (m + 1) (by omega))
    rw [val, Int.pow_succ]
    omega
theorem pow_le_of {n m : Nat} (h : n ≤ m) : (10 : Int) ^ n ≤ 10 ^ m := by
  have := Nat.pow_le_pow_right (n := 10) (by omega) h
  exact_mod_cast this
/-- What the program asks of one digit more is what makes one digit more a number's text. -/
theorem ok_step (z : Nat → Int) (a m : Nat) (hd : ∀ j, j < m + 1 → dgt (z (a + j)) = true) (hm : m = 0 ∨ okm z a m = true) :
    okm z a (m + 1) = true ↔ ¬ ((0 < m ∧ val z a m = 0) ∨ (2147483647 - (z (a + m) - 48)) / 10 < val z a m) := by
  have hdm := dgt_iff.1 (hd m (by omega))
  have bd := val_bd z a m (fun j hj => hd j (by omega))
  rw [okm_iff]
  rcases hm with rfl | hm
  · simp only [val]
    simp
    omega
  · rw [okm_iff] at hm
    obtain ⟨h1, h2, h3, h4⟩ := hm
    obtain ⟨k, rfl⟩ : ∃ k, m = k + 1 := ⟨m - 1, by omega⟩
    have hd0 := dgt_iff.1 (hd 0 (by omega))
    simp only [Nat.add_zero] at hd0
    by_cases h48 : z a = 48
    · have hk : k = 0 := by omega
      subst hk
      simp [val, h48]
    · have g := val_ge z a k (by omega) (fun j hj => hd j (by omega))
      have p1 : (1 : Int) ≤ 10 ^ k := pow_le_of (Nat.zero_le k)
      have g2 := val_ge z a (k + 1) (by omega) (fun j hj => hd j (by omega))
      simp only [val] at g g2 h4 ⊢
      constructor
      · intro h; omega
      · intro h
        refine ⟨by omega, ?_, by omega, by omega⟩
        by_cases hk : k + 1 ≤ 9
        · omega
        · exfalso
          have := pow_le_of (show 10 ≤ k + 1 by omega)
          have e : (10 : Int) ^ 10 = 10000000000 := by decide
          omega
theorem ok_bd {z : Nat → Int} {a m : Nat} (hd : ∀ j, j < m → dgt (z (a + j)) = true) (hm : m = 0 ∨ okm z a m = true) : 0 ≤ val z a m ∧ val z a m ≤ 2147483647 := by
  refine ⟨(val_bd z a m hd).1, ?_⟩
  rcases hm with rfl | hm
  · simp [val]
  · exact (okm_iff.1 hm).2.2.2

theorem scan_hit {z : Nat → Int} {len a m : Nat} (hlt : a + m < len) (hd : dgt (z (a + m)) = true) (hok : okm z a (m + 1) = true) : scan z len a (len - a - m) m = scan z len a (len - a - (m + 1)) (m + 1) := by
  obtain ⟨f, hf⟩ : ∃ f, len - a - m = f + 1 := ⟨len - a - m - 1, by omega⟩
  have e : len - a - (m + 1) = f := by omega
  rw [hf, e, scan, if_pos ⟨hlt, hd⟩, if_pos hok]
theorem scan_bad {z : Nat → Int} {len a m : Nat} (hlt : a + m < len) (hd : dgt (z (a + m)) = true) (hok : ¬ okm z a (m + 1) = true) : scan z len a (len - a - m) m = (0, ((a + m : Nat) : Int), false) := by
  obtain ⟨f, hf⟩ : ∃ f, len - a - m = f + 1 := ⟨len - a - m - 1, by omega⟩
  rw [hf, scan, if_pos ⟨hlt, hd⟩, if_neg hok]
theorem scan_end {z : Nat → Int} {len a m : Nat} (h : ¬ (a + m < len ∧ dgt (z (a + m)) = true)) : scan z len a (len - a - m) m = if m = 0 then (0, (a : Int), false) else (val z a m, ((a + m : Nat) : Int), true) := by
  cases hf : len - a - m with
  | zero => rw [scan]
  | succ f => rw [scan, if_neg h]
theorem parse_in {z : Nat → Int} {len a : Nat} (h : a ≤ len) : parse z len (a : Int) = scan z len a (len - a - 0) 0 := by
  unfold parse; rw [if_neg (by omega)]; simp
theorem parse_out {z : Nat → Int} {len : Nat} {at_ : Int} (h : at_ < 0 ∨ (len : Int) < at_) : parse z len at_ = (0, 0, false) := by
  unfold parse; rw [if_pos h]

/-! A number's text. -/
def txtF : Nat → Nat → List UInt8
  | 0, _ => []
  | f + 1, n => if n ≤ 9 then [UInt8.ofNat (48 + n)] else txtF f (n / 10) ++ [UInt8.ofNat (48 + n % 10)]
def txt (n : Nat) : List UInt8 := txtF 10 n
theorem txtF_fuel : ∀ (f g n : Nat), n < 10 ^ f → f ≤ g → 1 ≤ f → txtF g n = txtF f n
  | 0, _, _, _, _, h => by omega
  | 1, g + 1, n, hn, _, _ => by have : n ≤ 9 := by omega
                                simp [txtF, this]
  | f + 2, g + 1, n, hn, hg, _ => by
    rw [txtF, txtF]
    split
    · rfl
    · rw [txtF_fuel (f + 1) g (n / 10) (by rw [Nat.pow_succ] at hn; omega) (by omega) (by omega)]
  | _ + 1, 0, _, _, h, _ => by omega
theorem txt_small {n : Nat} (h : n ≤ 9) : txt n = [UInt8.ofNat (48 + n)] := by unfold txt; rw [txtF, if_pos h]
theorem txt_big {n : Nat} (h : 9 < n) (hm : n ≤ 2147483647) : txt n = txt (n / 10) ++ [UInt8.ofNat (48 + n % 10)] := by
  unfold txt
  rw [show txtF 10 n = if n ≤ 9 then [UInt8.ofNat (48 + n)] else txtF 9 (n / 10) ++ [UInt8.ofNat (48 + n % 10)] from rfl, if_neg (by omega), txtF_fuel 9 10 (n / 10) (by omega) (by omega) (by omega)]
theorem txtF_len : ∀ f n, (txtF f n).length ≤ f
  | 0, _ => by simp [txtF]
  | f + 1, n => by
    rw [txtF]; split
    · simp
    · have := txtF_len f (n / 10); simp; omega
theorem txt_len (n : Nat) : 1 ≤ (txt n).length ∧ (txt n).length ≤ 10 := by
  refine ⟨?_, txtF_len 10 n⟩
  show 1 ≤ (txtF 10 n).length
  rw [txtF]; split <;> simp
end Go.Proofs.Ytigmgkcojifbcaa.Dig

/- Contracts of the program's and the document's ways to read a number: each answers what the plain function tells, and leaves the world alone. -/
namespace Go.Proofs.Ytigmgkcojifbcaa.Dig
open Go.RowKit
set_option linter.unusedVariables false
set_option linter.unusedSimpArgs false

/-- What is read of a row of numbers of some kind: its cells. -/
def Rd (k : IntKind) (w : World) (a : Option Addr) (len : Nat) (z : Nat → Int) : Prop :=
  len ≤ 1000000000000 ∧ ∀ i, i < len → ∃ b off, a = some ⟨b, off, none⟩ ∧ w.cell? ⟨b, off + i, none⟩ = some (.int k (z i)) ∧ (Lit.int k (z i)).wf = true

theorem digit_yes (x : Int) (w : World) (h : 48 ≤ x ∧ x ≤ 57) :
    Calls Try.prog 83 #[.int .u8 x] w fun e w' => e = .returned (.tuple #[.int .i64 (x - 48), .bool true]) ∧ w' = w := by
  obtain ⟨h1, h2⟩ := h
  go_enter Try.func83, Try.ntmps83
  go_wp2
  go_ret2
  exact ⟨rfl, rfl⟩
theorem digit_no (x : Int) (w : World) (h : ¬ (48 ≤ x ∧ x ≤ 57)) (h0 : 0 ≤ x) (h1 : x ≤ 255) :
    Calls Try.prog 83 #[.int .u8 x] w fun e w' => e = .returned (.tuple #[.int .i64 0, .bool false]) ∧ w' = w := by
  rcases (show x < 48 ∨ 57 < x from by omega) with h | h
  all_goals
    go_enter Try.func83, Try.ntmps83
    go_wp2
    go_ret2
    exact ⟨rfl, rfl⟩
theorem rdigit_any (x : Int) (w : World) :
    Calls Try.prog 66 #[.int .u8 x] w fun e w' => e = .returned (.bool (dgt x)) ∧ w' = w := by
  by_cases h1 : 48 ≤ x
  · by_cases h2 : x ≤ 57
    · have : dgt x = true := dgt_iff.2 ⟨h1, h2⟩
      go_enter Try.func66, Try.ntmps66
      go_wp2
      go_ret
      exact ⟨by simp [*], rfl⟩
    · have : dgt x = false := dgt_no.2 (by omega)
      go_enter Try.func66, Try.ntmps66
      go_wp2
      go_ret
      exact ⟨by simp [*], rfl⟩
  · have : dgt x = false := dgt_no.2 (by omega)
    go_enter Try.func66, Try.ntmps66
    go_wp2
    go_ret
    exact ⟨by simp [*], rfl⟩

theorem ret3 {k1 k2 : IntKind} {n n' t t' : Int} {b b' : Bool} (r : Int × Int × Bool) (h : r = (n', t', b')) (h1 : n = n') (h2 : t = t') (h3 : b = b') :
    Ending.returned (.tuple #[.int k1 n, .int k2 t, .bool b]) = .returned (.tuple #[.int k1 r.1, .int k2 r.2.1, .bool r.2.2]) := by subst h h1 h2 h3; rfl
theorem Rd.le {k : IntKind} {w : World} {a : Option Addr} {len : Nat} {z : Nat → Int} (h : Rd k w a len z) : len ≤ 1000000000000 := h.1
theorem Rd.u8 {w : World} {a : Option Addr} {len : Nat} {z : Nat → Int} (h : Rd .u8 w a len z) {i : Nat} (hi : i < len) :
    ∃ b off, a = some ⟨b, off, none⟩ ∧ w.cell? ⟨b, off + i, none⟩ = some (.int .u8 (z i)) ∧ 0 ≤ z i ∧ z i ≤ 255 := by
  obtain ⟨b, off, h1, h2, h3⟩ := h.2 i hi
  have := bounds_u8 h3
  exact ⟨b, off, h1, h2, by omega, by omega⟩

def PRel (z : Nat → Int) (len a0 : Nat) (n t : Value) : Prop :=
  ∃ m : Nat, a0 + m ≤ len ∧ t = .int .i64 ((a0 : Int) + m) ∧ n = .int .i64 (val z a0 m) ∧ (∀ j, j < m → dgt (z (a0 + j)) = true) ∧ (m = 0 ∨ okm z a0 m = true) ∧ Hid (parse z len (a0 : Int) = scan z len a0 (len - a0 - m) m)

set_option maxHeartbeats 800000 in
theorem parse_inside (a : Option Addr) (len cap : Nat) (z : Nat → Int) (a0 : Nat) (w : World) (h : Rd .u8 w a len z) (hat : a0 ≤ len) :
    Calls Try.prog 81 #[.slice a len cap, .int .i64 (a0 : Int)] w fun e w' => e = .returned (.tuple #[.int .i64 (parse z len (a0 : Int)).1, .int .i64 (parse z len (a0 : Int)).2.1, .bool (parse z len (a0 : Int)).2.2]) ∧ w' = w := by
  have hlen := h.le
  have hat' : ¬ len < a0 := by omega
  have hat2 : ¬ (a0 : Int) < 0 := by omega
  have hp := parse_in (z := z) hat
  have HP : Hid (parse z len (a0 : Int) = scan z len a0 (len - a0 - 0) 0) := hp
  clear hp
  go_enter Try.func81, Try.ntmps81
  go_wp2
  go_loop [7, 8] (fun n t => PRel z len a0 n t)
    (fun _ t => len - (intOf t).toNat)
  case atStart => exact ⟨0, by omega, by go_num, rfl, by omega, .inl rfl, HP⟩
  case round =>
    obtain ⟨m, hm, rfl, rfl, hdg, hok, hps⟩ := hrel
    have hv := ok_bd hdg hok
    have HD : Hid (∀ j, j < m → dgt (z (a0 + j)) = true) := hdg
    have HO : Hid (m = 0 ∨ okm z a0 m = true) := hok
    clear hdg hok
    by_cases hlt : a0 + m < len
    · obtain ⟨b, off, rfl, hcell, hz0, hz1⟩ := h.u8 hlt
      by_cases hd : dgt (z (a0 + m)) = true
      · have hdi := dgt_iff.1 hd
        have hs := ok_step z a0 m (by intro j hj; by_cases e : j = m; · rw [e]; exact hd
                                      · exact HD.out j (by omega)) HO.out
        have HS : Hid (okm z a0 (m + 1) = true ↔ ¬ ((0 < m ∧ val z a0 m = 0) ∨ (2147483647 - (z (a0 + m) - 48)) / 10 < val z a0 m)) := hs
        obtain ⟨hd1, hd2⟩ := hdi
        have HDD : Hid (dgt (z (a0 + m)) = true) := hd
        clear hs hd
        by_cases hok : okm z a0 (m + 1) = true
        · have hn := HS.out.1 hok
          have hn1 : ¬ (2147483647 - (z (a0 + m) - 48)) / 10 < val z a0 m := fun g => hn (.inr g)
          have hn2 : 0 < m → (val z a0 m == 0) = false := fun g => by
            have : val z a0 m ≠ 0 := fun q => hn (.inl ⟨g, q⟩)
            simpa using this
          have HOK : Hid (okm z a0 (m + 1) = true) := hok
          clear hn hok
          by_cases hm0 : 0 < m
          all_goals
            have hn2' := hn2
            clear hn2
            go_wp2_with (go_at_call 83; refine (digit_yes _ _ ⟨hd1, hd2⟩).mono ?_; rintro e w' ⟨rfl, rfl⟩)
            go_round
            case rel =>
              have R : PRel z len a0 (.int .i64 (10 * val z a0 m + (z (a0 + m) - 48))) (.int .i64 ((a0 : Int) + m + 1)) := by
                refine ⟨m + 1, by omega, by go_num, rfl, ?_, .inr HOK.out, hps.out.trans (scan_hit hlt HDD.out HOK.out)⟩
                intro j hj
                by_cases e : j = m
                · rw [e]; exact HDD.out
                · exact HD.out j (by omega)
              exact R
            case measure => simp [intOf]; omega
        · have hn : (0 < m ∧ val z a0 m = 0) ∨ (2147483647 - (z (a0 + m) - 48)) / 10 < val z a0 m := by
            by_cases g : (0 < m ∧ val z a0 m = 0) ∨ (2147483647 - (z (a0 + m) - 48)) / 10 < val z a0 m
            · exact g
            · exact absurd (HS.out.2 g) hok
          have HR : Hid (parse z len (a0 : Int) = (0, ((a0 + m : Nat) : Int), false)) := hps.out.trans (scan_bad hlt HDD.out hok)
          clear hok
          have hn' : (0 < m ∧ (val z a0 m == 0) = true) ∨ ((0 < m → (val z a0 m == 0) = false) ∧ (2147483647 - (z (a0 + m) - 48)) / 10 < val z a0 m) := by
            by_cases g : 0 < m ∧ val z a0 m = 0
            · exact .inl ⟨g.1, by simpa using g.2⟩
            · refine .inr ⟨fun q => ?_, ?_⟩
              · have : val z a0 m ≠ 0 := fun r => g ⟨q, r⟩
                simpa using this
              · rcases hn with hn | hn
                · exact absurd hn g
                · exact hn
          clear hn
          rcases hn' with ⟨hm0, hv0⟩ | ⟨hv0, hbig⟩
          · go_wp2_with (go_at_call 83; refine (digit_yes _ _ ⟨hd1, hd2⟩).mono ?_; rintro e w' ⟨rfl, rfl⟩)
            go_ret3
            exact ⟨ret3 _ HR.out rfl (by omega) rfl, rfl⟩
          · by_cases hm0 : 0 < m
            all_goals
              go_wp2_with (go_at_call 83; refine (digit_yes _ _ ⟨hd1, hd2⟩).mono ?_; rintro e w' ⟨rfl, rfl⟩)
              go_ret3
              exact ⟨ret3 _ HR.out rfl (by omega) rfl, rfl⟩
      · have hdi : ¬ (48 ≤ z (a0 + m) ∧ z (a0 + m) ≤ 57) := fun g => hd (dgt_iff.2 g)
        have hse := scan_end (z := z) (len := len) (a := a0) (m := m) (by simp [hd])
        have HR : Hid (parse z len (a0 : Int) = if m = 0 then (0, (a0 : Int), false) else (val z a0 m, ((a0 + m : Nat) : Int), true)) := hps.out.trans hse
        clear hse hd
        go_wp2_with (go_at_call 83; refine (digit_no _ _ hdi hz0 hz1).mono ?_; rintro e w' ⟨rfl, rfl⟩)
        · have hm0 : m = 0 := by have g : ((a0 : Int) + m == a0) = true := by assumption
                                 simp at g; omega
          go_ret3
          exact ⟨ret3 _ (HR.out.trans (if_pos hm0)) rfl rfl rfl, rfl⟩
        · have hm0 : ¬ m = 0 := by have g : ((a0 : Int) + m == a0) = false := by assumption
                                   simp at g; omega
          go_ret3
          exact ⟨ret3 _ (HR.out.trans (if_neg hm0)) rfl (by omega) rfl, rfl⟩
    · have hse := scan_end (z := z) (len := len) (a := a0) (m := m) (by omega)
      have HR : Hid (parse z len (a0 : Int) = if m = 0 then (0, (a0 : Int), false) else (val z a0 m, ((a0 + m : Nat) : Int), true)) := hps.out.trans hse
      clear hse
      go_wp2
      · have hm0 : m = 0 := by have g : ((a0 : Int) + m == a0) = true := by assumption
                               simp at g; omega
        go_ret3
        exact ⟨ret3 _ (HR.out.trans (if_pos hm0)) rfl rfl rfl, rfl⟩
      · have hm0 : ¬ m = 0 := by have g : ((a0 : Int) + m == a0) = false := by assumption
                                 simp at g; omega
        go_ret3
        exact ⟨ret3 _ (HR.out.trans (if_neg hm0)) rfl (by omega) rfl, rfl⟩

theorem parse_outside (a : Option Addr) (len cap : Nat) (z : Nat → Int) (at_ : Int) (w : World) (hat : at_ < 0 ∨ (len : Int) < at_) :
    Calls Try.prog 81 #[.slice a len cap, .int .i64 at_] w fun e w' => e = .returned (.tuple #[.int .i64 (parse z len at_).1, .int .i64 (parse z len at_).2.1, .bool (parse z len at_).2.2]) ∧ w' = w := by
  rw [parse_out hat]
  by_cases h0 : at_ < 0
  · go_enter Try.func81, Try.ntmps81
    go_wp2
    go_ret3
    exact ⟨rfl, rfl⟩
  · have h1 : (len : Int) < at_ := by omega
    clear hat
    go_enter Try.func81, Try.ntmps81
    go_wp2
    go_ret3
    exact ⟨rfl, rfl⟩
/-- The program's Parse, at whatever place. -/
theorem parse_any (a : Option Addr) (len cap : Nat) (z : Nat → Int) (at_ : Int) (w : World) (h : Rd .u8 w a len z) :
    Calls Try.prog 81 #[.slice a len cap, .int .i64 at_] w fun e w' => e = .returned (.tuple #[.int .i64 (parse z len at_).1, .int .i64 (parse z len at_).2.1, .bool (parse z len at_).2.2]) ∧ w' = w := by
  by_cases hat : at_ < 0 ∨ (len : Int) < at_
  · exact parse_outside a len cap z at_ w hat
  · obtain ⟨a0, rfl⟩ : ∃ a0 : Nat, at_ = a0 := ⟨at_.toNat, by omega⟩
    exact parse_inside a len cap z a0 w h (by omega)

theorem val_ten {z : Nat → Int} {s k : Nat} (hd : ∀ j, j < k → dgt (z (s + j)) = true) (hk : k ≤ 10) : 0 ≤ val z s k ∧ val z s k ≤ 10000000000 := by
  have h := val_bd z s k hd
  have := pow_le_of hk
  have e : (10 : Int) ^ 10 = 10000000000 := by decide
  omega
theorem ret1 {k : IntKind} {n n' : Int} (h : n = n') : Ending.returned (.int k n) = .returned (.int k n') := by rw [h]
/-- What the document's Value tells of a row of digits. -/
def valS (z : Nat → Int) (s len : Nat) : Int := if okm z s len = true then val z s len else -1
set_option maxHeartbeats 800000 in
theorem value_digits (a : Option Addr) (len cap : Nat) (z : Nat → Int) (s : Nat) (w : World) (h : Rd .u8 w a len (fun i => z (s + i))) (hd : ∀ j, j < len → dgt (z (s + j)) = true) :
    Calls Try.prog 67 #[.slice a len cap] w fun e w' => e = .returned (.int .i64 (valS z s len)) ∧ w' = w := by
  have hlen := h.le
  have HD : Hid (∀ j, j < len → dgt (z (s + j)) = true) := hd
  clear hd
  by_cases h0 : len = 0
  · subst h0
    go_enter Try.func67, Try.ntmps67
    go_wp2
    go_ret
    exact ⟨ret1 (by simp [valS, okm]), rfl⟩
  have g0 : ((len : Int) == 0) = false := by simp; omega
  by_cases h10 : 10 < len
  · have g10 : (10 : Int) < len := by omega
    go_enter Try.func67, Try.ntmps67
    go_wp2
    go_ret
    exact ⟨ret1 (by have : ¬ len ≤ 10 := by omega
                    simp [valS, okm, this]), rfl⟩
  have g10 : ¬ (10 : Int) < len := by omega
  have hz := h.u8 (show 0 < len by omega)
  obtain ⟨b, off, rfl, hcell, hz0, hz1⟩ := hz
  simp only [Nat.add_zero] at hcell hz0 hz1
  by_cases hlead : 1 < len ∧ z s = 48
  · have g1 : (1 : Int) < len := by omega
    have g2 := hlead.2
    have g3 : (z s == 48) = true := by simp [g2]
    have HL : Hid (1 < len ∧ z s = 48) := hlead
    clear hlead g2
    go_enter Try.func67, Try.ntmps67
    go_wp2
    go_ret
    exact ⟨ret1 (by have := HL.out; simp [valS, okm, this]), rfl⟩
  have HL : Hid (¬ (1 < len ∧ z s = 48)) := hlead
  have gl : (1 : Int) < len → (z s == 48) = false := by intro q; simp; intro r; exact hlead ⟨by omega, r⟩
  clear hlead
  by_cases g1 : (1 : Int) < len
  all_goals
    have gl' := gl
    clear gl
    go_enter Try.func67, Try.ntmps67
    go_wp2
    go_loop [3, 4] (fun n i => ∃ k : Nat, k ≤ len ∧ i = .int .i64 k ∧ n = .int .i64 (val z s k)) (fun _ i => len - (intOf i).toNat)
    case atStart => exact ⟨0, Nat.zero_le _, rfl, rfl⟩
    case round =>
      obtain ⟨k, hk, rfl, rfl⟩ := hrel
      have hv := val_ten (z := z) (s := s) (k := k) (fun j hj => HD.out j (by omega)) (by omega)
      by_cases hlt : k < len
      · obtain ⟨b', off', hb, hck, hk0, hk1⟩ := h.u8 hlt
        simp only [Option.some.injEq, Addr.mk.injEq] at hb
        obtain ⟨rfl, rfl, _⟩ := hb
        have hdk : dgt (z (s + k)) = true := HD.out k hlt
        have hdi := dgt_iff.1 hdk
        obtain ⟨hd1, hd2⟩ := hdi
        go_wp2_with (go_at_call 66; refine (rdigit_any _ _).mono ?_; rintro e w' ⟨rfl, rfl⟩)
        go_round
        case rel => exact ⟨k + 1, by omega, by go_num, by first | rfl | (simp only [val]; go_num)⟩
        case measure => simp [intOf]; omega
      · have hkl : Hid (k = len) := (by omega : k = len)
        by_cases hbig : 2147483647 < val z s k
        · go_wp2
          go_ret
          exact ⟨ret1 (by have : ¬ val z s len ≤ 2147483647 := by rw [← hkl.out]; omega
                          simp [valS, okm, this]), rfl⟩
        · go_wp2
          go_ret
          refine ⟨ret1 ?_, rfl⟩
          rw [valS, if_pos, hkl.out]
          exact okm_iff.2 ⟨by omega, by omega, HL.out, by rw [← hkl.out]; omega⟩

theorem Rd.sub {w : World} {b off len : Nat} {z : Nat → Int} {k : IntKind} (h : Rd k w (some ⟨b, off, none⟩) len z) (s l : Nat) (hl : s + l ≤ len) : Rd k w (some ⟨b, off + s, none⟩) l (fun i => z (s + i)) := by
  refine ⟨by have := h.1; omega, fun i hi => ?_⟩
  obtain ⟨b', off', e, hc, hw⟩ := h.2 (s + i) (by omega)
  simp only [Option.some.injEq, Addr.mk.injEq] at e
  obtain ⟨rfl, rfl, _⟩ := e
  exact ⟨b, off + s, rfl, by rw [Nat.add_assoc]; exact hc, hw⟩
theorem valS_neg {z : Nat → Int} {s l : Nat} (h : ¬ okm z s l = true) : valS z s l < 0 := by rw [valS, if_neg h]; omega
theorem valS_pos {z : Nat → Int} {s l : Nat} (h : okm z s l = true) : valS z s l = val z s l := by rw [valS, if_pos h]
def EndRel (z : Nat → Int) (len a0 : Nat) (t : Value) : Prop := ∃ m : Nat, a0 + m ≤ len ∧ t = .int .i64 ((a0 : Int) + m) ∧ (∀ j, j < m → dgt (z (a0 + j)) = true)
def KRel (z : Nat → Int) (len a0 e : Nat) (t : Value) : Prop := ∃ m : Nat, m ≤ e ∧ t = .int .i64 ((a0 : Int) + m + 1) ∧ (m = 0 ∨ okm z a0 m = true) ∧ Hid (parse z len (a0 : Int) = scan z len a0 (len - a0 - m) m)

set_option maxHeartbeats 1600000 in
theorem rparse_inside (b off len cap : Nat) (z : Nat → Int) (a0 : Nat) (w : World) (h : Rd .u8 w (some ⟨b, off, none⟩) len z) (hcap : len ≤ cap) (hat : a0 < len) :
    Calls Try.prog 48 #[.slice (some ⟨b, off, none⟩) len cap, .int .i64 (a0 : Int)] w fun e w' => e = .returned (.tuple #[.int .i64 (parse z len (a0 : Int)).1, .int .i64 (parse z len (a0 : Int)).2.1, .bool (parse z len (a0 : Int)).2.2]) ∧ w' = w := by
  have hlen := h.le
  have hat' : ¬ len < a0 := by omega
  have hat2 : ¬ (a0 : Int) < 0 := by omega
  have hca : ¬ cap = a0 := by omega
  have HP : Hid (parse z len (a0 : Int) = scan z len a0 (len - a0 - 0) 0) := parse_in (by omega)
  go_enter Try.func48, Try.ntmps48
  go_wp2
  go_loop [7] (fun t => EndRel z len a0 t) (fun t => len - (intOf t).toNat)
  case atStart => exact ⟨0, by omega, by go_num, by omega⟩
  case round =>
    obtain ⟨m, hm, rfl, hdg⟩ := hrel
    have HD : Hid (∀ j, j < m → dgt (z (a0 + j)) = true) := hdg
    clear hdg
    by_cases hgo : a0 + m < len ∧ dgt (z (a0 + m)) = true
    · obtain ⟨hlt, hd⟩ := hgo
      obtain ⟨b', off', hb, hck, hk0, hk1⟩ := h.u8 hlt
      simp only [Option.some.injEq, Addr.mk.injEq] at hb
      obtain ⟨rfl, rfl, _⟩ := hb
      go_wp2_with (go_at_call 66; refine (rdigit_any _ _).mono ?_; rintro e w' ⟨rfl, rfl⟩)
      go_round
      case rel =>
        refine ⟨m + 1, by omega, by go_num, ?_⟩
        intro j hj
        by_cases e : j = m
        · rw [e]; exact hd
        · exact HD.out j (by omega)
      case measure => simp [intOf]; omega
    · have HG : Hid (¬ (a0 + m < len ∧ dgt (z (a0 + m)) = true)) := hgo
      have hgo' : (a0 + m < len ∧ dgt (z (a0 + m)) = false) ∨ ¬ a0 + m < len := by
        by_cases q : a0 + m < len
        · exact .inl ⟨q, by simpa [q] using hgo⟩
        · exact .inr q
      clear hgo
      have hcell : a0 + m < len → w.cell? ⟨b, off + (a0 + m), none⟩ = some (.int .u8 (z (a0 + m))) := by
        intro hlt
        obtain ⟨b', off', hb, hck, hk0, hk1⟩ := h.u8 hlt
        simp only [Option.some.injEq, Addr.mk.injEq] at hb
        obtain ⟨rfl, rfl, _⟩ := hb
        exact hck
      rcases hgo' with ⟨hlt, hd⟩ | hlt
      all_goals
        go_wp2_with (go_at_call 66; refine (rdigit_any _ _).mono ?_; rintro e w' ⟨rfl, rfl⟩)
        go_loop [8] (fun t => KRel z len a0 m t) (fun t => len + 2 - (intOf t).toNat)
        case atStart => exact ⟨0, by omega, by go_num, .inl rfl, HP⟩
        case round =>
          obtain ⟨q, hq, rfl, hok, hps⟩ := hrel
          have HO : Hid (q = 0 ∨ okm z a0 q = true) := hok
          clear hok
          by_cases hqm : q < m
          · by_cases hok' : okm z a0 (q + 1) = true
            · have hv : ¬ valS z a0 (a0 + q + 1 - a0) < 0 := by
                rw [show a0 + q + 1 - a0 = q + 1 by omega, valS_pos hok']
                have := (val_bd z a0 (q + 1) (fun j hj => HD.out j (by omega))).1
                omega
              have HK : Hid (okm z a0 (q + 1) = true) := hok'
              clear hok'
              go_wp2_with (go_at_call 67; refine (value_digits _ _ _ z a0 _ (h.sub a0 _ (by omega)) (fun j hj => HD.out j (by omega))).mono ?_; rintro e w' ⟨rfl, rfl⟩)
              go_round
              case rel => exact ⟨q + 1, by omega, by go_num, .inr HK.out, hps.out.trans (scan_hit (by omega) (HD.out q (by omega)) HK.out)⟩
              case measure => simp [intOf]; omega
            · have hv : valS z a0 (a0 + q + 1 - a0) < 0 := by
                rw [show a0 + q + 1 - a0 = q + 1 by omega]
                exact valS_neg hok'
              have HR : Hid (parse z len (a0 : Int) = (0, ((a0 + q : Nat) : Int), false)) := hps.out.trans (scan_bad (by omega) (HD.out q (by omega)) hok')
              clear hok'
              go_wp2_with (go_at_call 67; refine (value_digits _ _ _ z a0 _ (h.sub a0 _ (by omega)) (fun j hj => HD.out j (by omega))).mono ?_; rintro e w' ⟨rfl, rfl⟩)
              go_ret3
              exact ⟨ret3 _ HR.out rfl (by omega) rfl, rfl⟩
          · have hqe : Hid (q = m) := (by omega : q = m)
            have HR : Hid (parse z len (a0 : Int) = if m = 0 then (0, (a0 : Int), false) else (val z a0 m, ((a0 + m : Nat) : Int), true)) :=
              hps.out.trans (by rw [hqe.out]; exact scan_end HG.out)
            by_cases hm0 : m = 0
            · have g1 : ((a0 : Int) + m == a0) = true := by simp [hm0]
              have HM : Hid (m = 0) := hm0
              clear hm0
              go_wp2
              go_ret3
              exact ⟨ret3 _ (HR.out.trans (if_pos HM.out)) rfl rfl rfl, rfl⟩
            · have g1 : ((a0 : Int) + m == a0) = false := by simp; omega
              have hv : Hid (valS z a0 m = val z a0 m) := by
                exact valS_pos (by rcases HO.out with g | g
                                   · exact absurd (hqe.out.symm.trans g) hm0
                                   · rw [← hqe.out]; exact g)
              have HM : Hid (¬ m = 0) := hm0
              clear hm0
              go_wp2_with (go_at_call 67; refine (value_digits _ _ _ z a0 _ (h.sub a0 _ (by omega)) (fun j hj => HD.out j (by omega))).mono ?_; rintro e w' ⟨rfl, rfl⟩)
              go_ret3
              refine ⟨ret3 _ (HR.out.trans (if_neg HM.out)) ?_ ?_ rfl, rfl⟩
              · exact hv.out
              · omega

theorem rparse_end (a : Option Addr) (len cap : Nat) (z : Nat → Int) (w : World) (hlen : len ≤ 1000000000000) :
    Calls Try.prog 48 #[.slice a len cap, .int .i64 (len : Int)] w fun e w' => e = .returned (.tuple #[.int .i64 (parse z len (len : Int)).1, .int .i64 (parse z len (len : Int)).2.1, .bool (parse z len (len : Int)).2.2]) ∧ w' = w := by
  have hat2 : ¬ (len : Int) < 0 := by omega
  have HP : Hid (parse z len (len : Int) = (0, (len : Int), false)) := by
    refine (parse_in (Nat.le_refl _)).trans ?_
    rw [scan_end (by omega)]; rfl
  go_enter Try.func48, Try.ntmps48
  go_wp2
  go_loop [7] (fun t => t = .int .i64 (len : Int)) (fun t => 0)
  case atStart => rfl
  case round =>
    subst hrel
    go_wp2
    go_loop [8] (fun t => t = .int .i64 ((len : Int) + 1)) (fun t => 0)
    case atStart => rfl
    case round =>
      subst hrel
      go_wp2
      go_ret3
      exact ⟨ret3 _ HP.out rfl rfl rfl, rfl⟩
theorem rparse_outside (a : Option Addr) (len cap : Nat) (z : Nat → Int) (at_ : Int) (w : World) (hat : at_ < 0 ∨ (len : Int) < at_) :
    Calls Try.prog 48 #[.slice a len cap, .int .i64 at_] w fun e w' => e = .returned (.tuple #[.int .i64 (parse z len at_).1, .int .i64 (parse z len at_).2.1, .bool (parse z len at_).2.2]) ∧ w' = w := by
  rw [parse_out hat]
  by_cases h0 : at_ < 0
  · go_enter Try.func48, Try.ntmps48
    go_wp2
    go_ret3
    exact ⟨rfl, rfl⟩
  · have h1 : (len : Int) < at_ := by omega
    clear hat
    go_enter Try.func48, Try.ntmps48
    go_wp2
    go_ret3
    exact ⟨rfl, rfl⟩
/-- The document's Parse, at whatever place: it tells what the program's does. -/
theorem rparse_any (a : Option Addr) (len cap : Nat) (z : Nat → Int) (at_ : Int) (w : World) (h : Rd .u8 w a len z) (hcap : len ≤ cap) :
    Calls Try.prog 48 #[.slice a len cap, .int .i64 at_] w fun e w' => e = .returned (.tuple #[.int .i64 (parse z len at_).1, .int .i64 (parse z len at_).2.1, .bool (parse z len at_).2.2]) ∧ w' = w := by
  by_cases hat : at_ < 0 ∨ (len : Int) < at_
  · exact rparse_outside a len cap z at_ w hat
  · obtain ⟨a0, rfl⟩ : ∃ a0 : Nat, at_ = a0 := ⟨at_.toNat, by omega⟩
    by_cases h0 : a0 < len
    · obtain ⟨b, off, rfl, _⟩ := h.u8 h0
      exact rparse_inside b off len cap z a0 w h hcap h0
    · obtain rfl : a0 = len := by omega
      exact rparse_end a a0 cap z w h.le
end Go.Proofs.Ytigmgkcojifbcaa.Dig

/- What each statement's frame asks of an argument that came in: a row of numbers is nil, or leads to cells; and how a walk reads it. -/
namespace Go.Proofs.Ytigmgkcojifbcaa.Frame
open Go.ChangeShapes Go.WideShapes Go.ChangeAt Go.RowKit
open Go.ChangeMaps (open_string shut_string)
set_option linter.unusedVariables false

theorem own : ownKnob Try.prog.godebug = none := by kernel_rfl
theorem laidOut : laidOutB Try.prog = true := by kernel_rfl

/-- A slice of integers that came in: nil, or a row of 'cap' cells, of which the first 'len' are its elements. -/
def IsRow (k : IntKind) (w : World) (a : Option Addr) (len cap : Nat) (zs : List Int) : Prop :=
  (a = none ∧ len = 0 ∧ cap = 0 ∧ zs = []) ∨
  ∃ x, a = some x ∧ len ≤ cap ∧ cap ≤ maxLen ∧ zs.length = cap ∧ (∀ i, i < zs.length → w.cell? (x.add i) = some (.int k (zs.getD i 0))) ∧ ∀ n ∈ zs, (Lit.int k n).wf = true
theorem IsRow.cap {k : IntKind} {w : World} {a : Option Addr} {len cap : Nat} {zs : List Int} (h : IsRow k w a len cap zs) : len ≤ cap ∧ cap ≤ 9223372036854775807 := by
  rcases h with ⟨_, h1, h2, _⟩ | ⟨x, _, h1, h2, _⟩
  · omega
  · unfold maxLen at h2; omega
theorem IsRow.rd {k : IntKind} {w : World} {a : Option Addr} {len cap : Nat} {zs : List Int} (h : IsRow k w a len cap zs) (hl : len ≤ 1000000000000) : Dig.Rd k w a len (fun i => zs.getD i 0) := by
  refine ⟨hl, fun i hi => ?_⟩
  rcases h with ⟨_, h1, _⟩ | ⟨x, rfl, h1, h2, h3, h4, h5⟩
  · omega
  · have hc := h4 i (by omega)
    obtain ⟨b, off, spot⟩ := x
    have hs : spot = none := by simpa [Addr.add] using World.cell?_spot (h4 0 (by omega))
    subst hs
    refine ⟨b, off, rfl, ?_, ?_⟩
    · by_cases e : i = 0
      · subst e; simpa [Addr.add] using hc
      · simpa [Addr.add, e] using hc
    · show (Lit.int k (zs.getD i 0)).wf = true
      rw [List.getD_eq_getElem?_getD, List.getElem?_eq_getElem (by omega)]
      exact h5 _ (List.getElem_mem _)
/-- The elements alone, as a list. -/
theorem IsRow.list {k : IntKind} {w : World} {a : Option Addr} {len cap : Nat} {zs : List Int} (h : IsRow k w a len cap zs) (hl : len ≤ 1000000000000) :
    ∃ l : List Int, len = l.length ∧ Dig.Rd k w a l.length (fun i => l.getD i 0) ∧ (∀ n ∈ l, (Lit.int k n).wf = true) ∧ (a = none → l.length = 0 ∧ cap = 0) := by
  have hr := h.rd hl
  rcases h with ⟨rfl, rfl, rfl, rfl⟩ | ⟨x, rfl, h1, h2, h3, h4, h5⟩
  · exact ⟨[], rfl, ⟨by simp, fun i hi => by simp at hi⟩, by simp, fun _ => ⟨rfl, rfl⟩⟩
  · have e : (zs.take len).length = len := by rw [List.length_take]; omega
    refine ⟨zs.take len, e.symm, ?_, fun n hn => h5 n (List.mem_of_mem_take hn), by simp⟩
    rw [e]
    refine ⟨hl, fun i hi => ?_⟩
    obtain ⟨b, off, q1, q2, q3⟩ := hr.2 i hi
    have e2 : (zs.take len).getD i 0 = zs.getD i 0 := by
      rw [List.getD_eq_getElem?_getD, List.getD_eq_getElem?_getD, List.getElem?_take, if_pos hi]
    exact ⟨b, off, q1, by show _ = some (Value.int k ((zs.take len).getD i 0)); rw [e2]; exact q2, by show (Lit.int k ((zs.take len).getD i 0)).wf = true; rw [e2]; exact q3⟩
end Go.Proofs.Ytigmgkcojifbcaa.Frame

/- Contracts of the program's and the document's ways to read a list of numbers, and of the document's Same. -/
namespace Go.Proofs.Ytigmgkcojifbcaa.Dig
open Go.RowKit
set_option linter.unusedVariables false
set_option linter.unusedSimpArgs false

/-- The numbers from place a on, each with a blank ahead, behind those of l; f is fuel. -/
def lscan (z : Nat → Int) (len : Nat) : Nat → Nat → List Int → List Int × Int × Bool
  | 0, a, l => (l, (a : Int), true)
  | f + 1, a, l => if a < len ∧ z a = 32 then
      (if (parse z len ((a : Int) + 1)).2.2 = true then lscan z len f (parse z len ((a : Int) + 1)).2.1.toNat (l ++ [(parse z len ((a : Int) + 1)).1]) else ([], (parse z len ((a : Int) + 1)).2.1, false))
      else (l, (a : Int), true)
def lst (z : Nat → Int) (len : Nat) (at_ : Int) : List Int × Int × Bool :=
  if at_ < 0 ∨ (len : Int) < at_ then ([], 0, false) else lscan z len (len - at_.toNat) at_.toNat []
theorem lst_in {z : Nat → Int} {len a : Nat} (h : a ≤ len) : lst z len (a : Int) = lscan z len (len - a) a [] := by
  unfold lst; rw [if_neg (by omega)]; simp
theorem lst_out {z : Nat → Int} {len : Nat} {at_ : Int} (h : at_ < 0 ∨ (len : Int) < at_) : lst z len at_ = ([], 0, false) := by
  unfold lst; rw [if_pos h]
theorem lscan_stop {z : Nat → Int} {len f a : Nat} {l : List Int} (hf : len - a ≤ f) (h : ¬ (a < len ∧ z a = 32)) : lscan z len f a l = (l, (a : Int), true) := by
  cases f with
  | zero => rfl
  | succ f => rw [lscan, if_neg h]
theorem lscan_bad {z : Nat → Int} {len f a : Nat} {l : List Int} {n t : Int} (hf : len - a ≤ f) (h : a < len ∧ z a = 32) (hp : parse z len ((a : Int) + 1) = (n, t, false)) : lscan z len f a l = ([], t, false) := by
  obtain ⟨g, rfl⟩ : ∃ g, f = g + 1 := ⟨f - 1, by omega⟩
  rw [lscan, if_pos h, hp]; simp
theorem lscan_go {z : Nat → Int} {len f a : Nat} {l : List Int} {n : Int} {t : Nat} (hf : len - a ≤ f) (h : a < len ∧ z a = 32) (hp : parse z len ((a : Int) + 1) = (n, (t : Int), true)) :
    lscan z len f a l = lscan z len (f - 1) t (l ++ [n]) := by
  obtain ⟨g, rfl⟩ : ∃ g, f = g + 1 := ⟨f - 1, by omega⟩
  rw [lscan, if_pos h, hp]; simp

/-- What a way to read a number ends with. -/
theorem scan_spec (z : Nat → Int) (len a : Nat) : ∀ f m, a + m ≤ len → len - a - m ≤ f → (∀ j, j < m → dgt (z (a + j)) = true) → (m = 0 ∨ okm z a m = true) →
    (∃ k, m ≤ k ∧ 1 ≤ k ∧ a + k ≤ len ∧ okm z a k = true ∧ (∀ j, j < k → dgt (z (a + j)) = true) ∧ ¬ (a + k < len ∧ dgt (z (a + k)) = true) ∧ scan z len a f m = (val z a k, ((a + k : Nat) : Int), true)) ∨
    (∃ k, m ≤ k ∧ a + k ≤ len ∧ (k = 0 ∨ okm z a k = true) ∧ (∀ j, j < k → dgt (z (a + j)) = true) ∧ ((k = 0 ∧ ¬ (a < len ∧ dgt (z a) = true)) ∨ (a + k < len ∧ dgt (z (a + k)) = true ∧ ¬ okm z a (k + 1) = true)) ∧ scan z len a f m = (0, ((a + k : Nat) : Int), false))
  | 0, m, hm, hf, hd, hok => by
    by_cases h0 : m = 0
    · right
      subst h0
      exact ⟨0, by omega, hm, .inl rfl, hd, .inl ⟨rfl, by omega⟩, by rw [scan]; simp⟩
    · left
      exact ⟨m, by omega, by omega, hm, by rcases hok with h | h; exact absurd h h0; exact h, hd, by omega, by rw [scan, if_neg h0]⟩
  | f + 1, m, hm, hf, hd, hok => by
    by_cases hg : a + m < len ∧ dgt (z (a + m)) = true
    · by_cases ho : okm z a (m + 1) = true
      · have hd' : ∀ j, j < m + 1 → dgt (z (a + j)) = true := fun j hj => by
          by_cases e : j = m
          · rw [e]; exact hg.2
          · exact hd j (by omega)
        have hs : scan z len a (f + 1) m = scan z len a f (m + 1) := by rw [scan, if_pos hg, if_pos ho]
        rw [hs]
        rcases scan_spec z len a f (m + 1) (by omega) (by omega) hd' (.inr ho) with ⟨k, h1, h2⟩ | ⟨k, h1, h2⟩
        · exact .inl ⟨k, by omega, h2⟩
        · exact .inr ⟨k, by omega, h2⟩
      · right
        exact ⟨m, by omega, hm, hok, hd, .inr ⟨hg.1, hg.2, ho⟩, by rw [scan, if_pos hg, if_neg ho]⟩
    · by_cases h0 : m = 0
      · right
        subst h0
        exact ⟨0, by omega, hm, .inl rfl, hd, .inl ⟨rfl, by simpa using hg⟩, by rw [scan, if_neg hg]; simp⟩
      · left
        exact ⟨m, by omega, by omega, hm, by rcases hok with h | h; exact absurd h h0; exact h, hd, hg, by rw [scan, if_neg hg, if_neg h0]⟩
theorem parse_spec (z : Nat → Int) (len a : Nat) (h : a ≤ len) :
    (∃ k, 1 ≤ k ∧ a + k ≤ len ∧ okm z a k = true ∧ (∀ j, j < k → dgt (z (a + j)) = true) ∧ ¬ (a + k < len ∧ dgt (z (a + k)) = true) ∧ parse z len (a : Int) = (val z a k, ((a + k : Nat) : Int), true)) ∨
    (∃ k, a + k ≤ len ∧ (k = 0 ∨ okm z a k = true) ∧ (∀ j, j < k → dgt (z (a + j)) = true) ∧ ((k = 0 ∧ ¬ (a < len ∧ dgt (z a) = true)) ∨ (a + k < len ∧ dgt (z (a + k)) = true ∧ ¬ okm z a (k + 1) = true)) ∧ parse z len (a : Int) = (0, ((a + k : Nat) : Int), false)) := by
  rw [parse_in h]
  rcases scan_spec z len a (len - a - 0) 0 (by omega) (by omega) (by omega) (.inl rfl) with ⟨k, _, h2⟩ | ⟨k, _, h2⟩
  · exact .inl ⟨k, h2⟩
  · exact .inr ⟨k, h2⟩
/-- Read a number from a place on: either a number and the place behind it, or the first wrong place. -/
theorem parse_two (z : Nat → Int) (len a : Nat) (h : a ≤ len) :
    (∃ (n : Int) (t : Nat), a < t ∧ t ≤ len ∧ 0 ≤ n ∧ n ≤ 2147483647 ∧ parse z len (a : Int) = (n, (t : Int), true)) ∨ (∃ t : Nat, a ≤ t ∧ t ≤ len ∧ parse z len (a : Int) = (0, (t : Int), false)) := by
  rcases parse_spec z len a h with ⟨k, h1, h2, h3, h4, h5, h6⟩ | ⟨k, h2, h3, h4, h5, h6⟩
  · have := ok_bd h4 (.inr h3)
    exact .inl ⟨_, a + k, by omega, h2, this.1, this.2, h6⟩
  · exact .inr ⟨a + k, by omega, h2, h6⟩

theorem lt_of_cell {w : World} {p : Addr} {v : Value} (h : w.cell? p = some v) : p.block < w.heap.size := by
  rcases Nat.lt_or_ge p.block w.heap.size with g | g
  · exact g
  · simp [World.cell?, Array.getElem?_eq_none g] at h
theorem Rd.keep {k : IntKind} {w w' : World} {a : Option Addr} {len : Nat} {z : Nat → Int} (h : Rd k w a len z) (hb : Below w.heap.size w w') : Rd k w' a len z := by
  refine ⟨h.1, fun i hi => ?_⟩
  obtain ⟨b, off, e, hc, hw⟩ := h.2 i hi
  exact ⟨b, off, e, by rw [hb.cell (lt_of_cell hc)]; exact hc, hw⟩
/-- What a row of the call's own holds, read. -/
theorem Rd.own {w : World} {base : Nat} {v : Value} {l : List Int} (h : w.ownsRow base 3 1 v l.length (l.map (Value.int .i64))) (hl : l.length ≤ 1000000000000) (hw : ∀ n ∈ l, (Lit.int .i64 n).wf = true) :
    ∃ a cap, v = .slice a l.length cap ∧ l.length ≤ cap ∧ Rd .i64 w a l.length (fun i => l.getD i 0) := by
  have h' := h
  obtain ⟨h1, h2⟩ := h
  rcases h2 with ⟨hv, h0⟩ | ⟨g, cap, cur, hv, hg, hh, hc1, hc2, hc3, hc4⟩
  · have : l = [] := by cases l with
      | nil => rfl
      | cons x l => simp at h0
    subst this
    exact ⟨none, 0, hv, by simp, by simp, fun i hi => by simp at hi⟩
  · refine ⟨_, cap, hv, hc1, hl, fun i hi => ⟨g, 0, rfl, ?_, ?_⟩⟩
    · subst hv
      rw [Nat.zero_add, h'.cellAt i (by omega)]
      simp [List.getD_eq_getElem?_getD, List.getElem?_eq_getElem hi]
    · simp only [List.getD_eq_getElem?_getD, List.getElem?_eq_getElem hi, Option.getD_some]
      exact hw _ (List.getElem_mem hi)

theorem parse_eq (a : Option Addr) (len cap : Nat) (z : Nat → Int) (at_ : Int) (w : World) (h : Rd .u8 w a len z) {n t : Int} {b : Bool} (hr : Hid (parse z len at_ = (n, t, b))) :
    Calls Try.prog 81 #[.slice a len cap, .int .i64 at_] w fun e w' => e = .returned (.tuple #[.int .i64 n, .int .i64 t, .bool b]) ∧ w' = w := by
  have := parse_any a len cap z at_ w h
  rw [hr.out] at this
  exact this
theorem rparse_eq (a : Option Addr) (len cap : Nat) (z : Nat → Int) (at_ : Int) (w : World) (h : Rd .u8 w a len z) (hc : len ≤ cap) {n t : Int} {b : Bool} (hr : Hid (parse z len at_ = (n, t, b))) :
    Calls Try.prog 48 #[.slice a len cap, .int .i64 at_] w fun e w' => e = .returned (.tuple #[.int .i64 n, .int .i64 t, .bool b]) ∧ w' = w := by
  have := rparse_any a len cap z at_ w h hc
  rw [hr.out] at this
  exact this

theorem one_new (w : World) (x : Value) (t : TypeId) : ∀ (j : Nat) (u : Value), [x][j]? = some u → (w.alloc (.cells #[x] t)).cell? ((⟨w.heap.size, 0, none⟩ : Addr).add j) = some u := by
  intro j u hj
  match j, hj with
  | 0, hj => simp at hj; subst hj; simp [Addr.add]

theorem wf_of_i64 {n : Int} (h0 : 0 ≤ n) (h1 : n ≤ 2147483647) : (Lit.int .i64 n).wf = true := WalkArith.wf_i64 (by omega)

def LRel (z : Nat → Int) (len a0 base : Nat) (w : World) (v a : Value) (wr : World) : Prop :=
  ∃ (at_ : Nat) (l : List Int) (f : Nat), at_ ≤ len ∧ a = .int .i64 (at_ : Int) ∧ wr.ownsRow base 3 1 v l.length (l.map (Value.int .i64)) ∧ Below base w wr ∧ len - at_ ≤ f ∧ l.length ≤ at_ ∧ (∀ n ∈ l, 0 ≤ n ∧ n ≤ 2147483647) ∧ Hid (lst z len (a0 : Int) = lscan z len f at_ l)
theorem LRel.push {z : Nat → Int} {len a0 base at_ f : Nat} {w w1 : World} {v1 : Value} {l : List Int} {n : Int} {t : Nat} (hlt : at_ < len) (h32 : z at_ = 32) (hp : parse z len ((at_ : Int) + 1) = (n, (t : Int), true)) (h1 : at_ < t) (h2 : t ≤ len) (hn : 0 ≤ n ∧ n ≤ 2147483647)
    (hf : len - at_ ≤ f) (hll : l.length ≤ at_) (hl : ∀ n ∈ l, 0 ≤ n ∧ n ≤ 2147483647) (hs : Hid (lst z len (a0 : Int) = lscan z len f at_ l)) (hown : w1.ownsRow base 3 1 v1 (l.length + 1) (l.map (Value.int .i64) ++ [.int .i64 n])) (hb : Below base w w1) :
    LRel z len a0 base w v1 (.int .i64 (t : Int)) w1 := by
  refine ⟨t, l ++ [n], f - 1, h2, rfl, ?_, hb, by omega, by simp; omega, ?_, hs.out.trans (lscan_go hf ⟨hlt, h32⟩ hp)⟩
  · rw [List.length_append, List.map_append]; exact hown
  · intro m hm
    rcases List.mem_append.1 hm with q | q
    · exact hl m q
    · simp at q; subst q; exact hn

theorem Try.info3 : (Try.prog.info? 3).map (fun i => (i.zero, i.size, i.bytes)) = some (some (.int .i64 0), 1, 8) := by kernel_rfl
/-- What a list's reading ends with. -/
def ListPost (r : List Int × Int × Bool) (w : World) (e : Ending) (w' : World) : Prop :=
  ∃ v, e = .returned (.tuple #[v, .int .i64 r.2.1, .bool r.2.2]) ∧ w'.ownsRow w.heap.size 3 1 v r.1.length (r.1.map (Value.int .i64)) ∧ Below w.heap.size w w' ∧ (∀ n ∈ r.1, 0 ≤ n ∧ n ≤ 2147483647) ∧ r.1.length ≤ 1000000000000
theorem list_inside (a : Option Addr) (len cap : Nat) (z : Nat → Int) (a0 : Nat) (w : World) (h : Rd .u8 w a len z) (hat : a0 ≤ len) :
    Calls Try.prog 82 #[.slice a len cap, .int .i64 (a0 : Int)] w fun e w' => ListPost (lst z len (a0 : Int)) w e w' := by
  have hlen := h.le
  have hat' : ¬ len < a0 := by omega
  have hat2 : ¬ (a0 : Int) < 0 := by omega
  have HP : Hid (lst z len (a0 : Int) = lscan z len (len - a0) a0 []) := lst_in hat
  obtain ⟨i0, hi, hz0, hz1, hz2⟩ := info_parts Try.info3
  go_enter Try.func82, Try.ntmps82
  go_wp2
  go_loopw [1, 7] (fun t v wr => LRel z len a0 w.heap.size w v t wr) (fun t _ _ => len - (intOf t).toNat)
  case atStart => exact ⟨a0, [], len - a0, hat, rfl, World.ownsRow_nil _ _ _ _, Below.refl _ _, Nat.le_refl _, by simp, by simp, HP⟩
  case round =>
    obtain ⟨at_, l, f, hat3, rfl, hown, hbel, hf, hll, hl, hs⟩ := hrel
    have hr := h.keep hbel
    by_cases hlt : at_ < len
    · obtain ⟨b, off, rfl, hcell, hz0', hz1'⟩ := hr.u8 hlt
      by_cases h32 : z at_ = 32
      · have g32 : (z at_ == 32) = true := by simp [h32]
        rcases parse_two z len (at_ + 1) (by omega) with ⟨n, t, ht1, ht2, hn1, hn2, hp⟩ | ⟨t, ht1, ht2, hp⟩
        · have HPP : Hid (parse z len ((at_ : Int) + 1) = (n, (t : Int), true)) := hp
          have H32 : Hid (z at_ = 32) := h32
          clear hp h32
          go_wp2_with (first | (go_at_call 81; refine (parse_eq _ _ _ z _ _ hr HPP).mono ?_; rintro e w' ⟨rfl, hw⟩; replace hw := hw.symm; subst hw) | (at_builtin; go_loud (refine wpList_append_own _ rfl _ _ 43 rfl w.heap.size 3 i0 (.int .i64 0) 1 8 Try.underlying43 hi hz0 hz1 hz2 rfl (by decide) _ _ _ rfl (hown.alloc _) ⟨wr.heap.size, 0, none⟩ 1 1 [.int .i64 n] rfl rfl ?_ ?_ ?_ ?_ ?_ ?_)))
          · exact one_new _ _ _
          · intro u hu; simp at hu; subst hu; rfl
          · unfold maxLen; omega
          · omega
          · have := hbel.size; simp; omega
          · intro v1 w1 hown1 hgrow1 _
            have hb1 : Below w.heap.size w w1 := (hbel.alloc hbel.size _).grown hgrow1 (by have := hbel.size; simp; omega) (fun k hk => (hown.lt k hk).1)
            have R := LRel.push hlt H32.out HPP.out (by omega) ht2 ⟨hn1, hn2⟩ hf hll hl hs hown1 hb1
            clear hown1 hgrow1 hown hbel hb1 hr h hcell
            go_wp2
            go_roundw
            case rel => exact R
            case measure => simp [intOf]; omega
        · have HPP : Hid (parse z len ((at_ : Int) + 1) = (0, (t : Int), false)) := hp
          have HR : Hid (lst z len (a0 : Int) = ([], (t : Int), false)) := hs.out.trans (lscan_bad hf ⟨hlt, h32⟩ hp)
          clear hp h32
          go_wp2_with (go_at_call 81; refine (parse_eq _ _ _ z _ _ hr HPP).mono ?_; rintro e w' ⟨rfl, hw⟩; replace hw := hw.symm; subst hw)
          go_ret3
          rw [HR.out]
          exact ⟨_, rfl, World.ownsRow_nil _ _ _ _, hbel, by simp, by simp⟩
      · have g32 : (z at_ == 32) = false := by simp [h32]
        have HR : Hid (lst z len (a0 : Int) = (l, (at_ : Int), true)) := hs.out.trans (lscan_stop hf (by intro q; exact h32 q.2))
        clear h32
        go_wp2
        go_ret3
        rw [HR.out]
        exact ⟨_, rfl, hown, hbel, hl, by show l.length ≤ _; omega⟩
    · have HR : Hid (lst z len (a0 : Int) = (l, (at_ : Int), true)) := hs.out.trans (lscan_stop hf (by intro q; exact hlt q.1))
      go_wp2
      go_ret3
      rw [HR.out]
      exact ⟨_, rfl, hown, hbel, hl, by show l.length ≤ _; omega⟩
theorem list_outside (a : Option Addr) (len cap : Nat) (z : Nat → Int) (at_ : Int) (w : World) (hat : at_ < 0 ∨ (len : Int) < at_) :
    Calls Try.prog 82 #[.slice a len cap, .int .i64 at_] w fun e w' => ListPost (lst z len at_) w e w' := by
  rw [lst_out hat]
  have P0 : ListPost ([], 0, false) w (.returned (.tuple #[.slice none 0 0, .int .i64 0, .bool false])) w := ⟨_, rfl, World.ownsRow_nil _ _ _ _, Below.refl _ _, by simp, by simp⟩
  have PH : Hid (ListPost ([], 0, false) w (.returned (.tuple #[.slice none 0 0, .int .i64 0, .bool false])) w) := P0
  clear P0
  by_cases h0 : at_ < 0
  · go_enter Try.func82, Try.ntmps82
    go_wp2
    go_ret3
    exact PH.out
  · have h1 : (len : Int) < at_ := by omega
    clear hat
    go_enter Try.func82, Try.ntmps82
    go_wp2
    go_ret3
    exact PH.out
theorem list_any (a : Option Addr) (len cap : Nat) (z : Nat → Int) (at_ : Int) (w : World) (h : Rd .u8 w a len z) :
    Calls Try.prog 82 #[.slice a len cap, .int .i64 at_] w fun e w' => ListPost (lst z len at_) w e w' := by
  by_cases hat : at_ < 0 ∨ (len : Int) < at_
  · exact list_outside a len cap z at_ w hat
  · obtain ⟨a0, rfl⟩ : ∃ a0 : Nat, at_ = a0 := ⟨at_.toNat, by omega⟩
    exact list_inside a len cap z a0 w h (by omega)

/-- The program's List, its answer named. -/
theorem list_eq (a : Option Addr) (len cap : Nat) (z : Nat → Int) (at_ : Int) (w : World) (h : Rd .u8 w a len z) {l : List Int} {t : Int} {b : Bool} (hr : Hid (lst z len at_ = (l, t, b))) :
    Calls Try.prog 82 #[.slice a len cap, .int .i64 at_] w fun e w' => ∃ a' c, e = .returned (.tuple #[.slice a' l.length c, .int .i64 t, .bool b]) ∧ Below w.heap.size w w' ∧ Rd .i64 w' a' l.length (fun i => l.getD i 0) ∧ l.length ≤ c := by
  refine (list_any a len cap z at_ w h).mono ?_
  rw [hr.out]
  rintro e w' ⟨v, rfl, hown, hb, hl, hll⟩
  obtain ⟨a', c, rfl, h1, h2⟩ := Rd.own hown hll (fun n hn => by have := hl n hn; exact wf_of_i64 this.1 this.2)
  exact ⟨a', c, rfl, hb, h2, h1⟩

def RLRel (z : Nat → Int) (len a0 base : Nat) (w : World) (v a kv : Value) (wr : World) : Prop :=
  ∃ (at_ : Nat) (l : List Int) (f k : Nat), kv = .int .i64 (k : Int) ∧ k ≤ at_ - a0 ∧ a0 ≤ at_ ∧ at_ ≤ len ∧ a = .int .i64 (at_ : Int) ∧ wr.ownsRow base 3 1 v l.length (l.map (Value.int .i64)) ∧ Below base w wr ∧ len - at_ ≤ f ∧ l.length ≤ at_ ∧ (∀ n ∈ l, 0 ≤ n ∧ n ≤ 2147483647) ∧ Hid (lst z len (a0 : Int) = lscan z len f at_ l)
theorem rlist_inside (a : Option Addr) (len cap : Nat) (z : Nat → Int) (a0 : Nat) (w : World) (h : Rd .u8 w a len z) (hcap : len ≤ cap) (hat : a0 ≤ len) :
    Calls Try.prog 50 #[.slice a len cap, .int .i64 (a0 : Int)] w fun e w' => ListPost (lst z len (a0 : Int)) w e w' := by
  have hlen := h.le
  have hat' : ¬ len < a0 := by omega
  have hat2 : ¬ (a0 : Int) < 0 := by omega
  have HP : Hid (lst z len (a0 : Int) = lscan z len (len - a0) a0 []) := lst_in hat
  obtain ⟨i0, hi, hz0, hz1, hz2⟩ := info_parts Try.info3
  go_enter Try.func50, Try.ntmps50
  go_wp2
  go_loopw [1, 7, 8] (fun t v k wr => RLRel z len a0 w.heap.size w v t k wr) (fun _ _ k _ => len + 1 - (intOf k).toNat)
  case atStart => exact ⟨a0, [], len - a0, 0, rfl, by omega, by omega, hat, rfl, World.ownsRow_nil _ _ _ _, Below.refl _ _, Nat.le_refl _, by simp, by simp, HP⟩
  case round =>
    obtain ⟨at_, l, f, k, rfl, hk1, hk2, hat3, rfl, hown, hbel, hf, hll, hl, hs⟩ := hrel
    have hr := h.keep hbel
    have hkl : k ≤ len := by omega
    by_cases hlt : at_ < len
    · have hlt' : ¬ len ≤ at_ := by omega
      obtain ⟨b, off, rfl, hcell, hz0', hz1'⟩ := hr.u8 hlt
      by_cases h32 : z at_ = 32
      · have g32 : (z at_ != 32) = false := by simp [h32]
        rcases parse_two z len (at_ + 1) (by omega) with ⟨n, t, ht1, ht2, hn1, hn2, hp⟩ | ⟨t, ht1, ht2, hp⟩
        · have HPP : Hid (parse z len ((at_ : Int) + 1) = (n, (t : Int), true)) := hp
          have H32 : Hid (z at_ = 32) := h32
          clear hp h32
          go_wp2_with (first | (go_at_call 48; refine (rparse_eq _ _ _ z _ _ hr hcap HPP).mono ?_; rintro e w' ⟨rfl, hw⟩; replace hw := hw.symm; subst hw) | (at_builtin; go_loud (refine wpList_append_own _ rfl _ _ 43 rfl w.heap.size 3 i0 (.int .i64 0) 1 8 Try.underlying43 hi hz0 hz1 hz2 rfl (by decide) _ _ _ rfl (hown.alloc _) ⟨wr.heap.size, 0, none⟩ 1 1 [.int .i64 n] rfl rfl ?_ ?_ ?_ ?_ ?_ ?_)))
          · exact one_new _ _ _
          · intro u hu; simp at hu; subst hu; rfl
          · unfold maxLen; omega
          · omega
          · have := hbel.size; simp; omega
          · intro v1 w1 hown1 hgrow1 _
            have hb1 : Below w.heap.size w w1 := (hbel.alloc hbel.size _).grown hgrow1 (by have := hbel.size; simp; omega) (fun k hk => (hown.lt k hk).1)
            have R : RLRel z len a0 w.heap.size w v1 (.int .i64 (t : Int)) (.int .i64 ((k : Int) + 1)) w1 := by
              obtain ⟨q1, q2, q3, q4, q5, q6, q7, q8⟩ := LRel.push hlt H32.out HPP.out (by omega) ht2 ⟨hn1, hn2⟩ hf hll hl hs hown1 hb1
              have qt : q1 = t := by simp at q5; omega
              subst qt
              exact ⟨q1, q2, q3, k + 1, by go_num, by omega, by omega, q4, q5, q6, q7, q8⟩
            clear hown1 hgrow1 hown hbel hb1 hr h hcell
            go_wp2
            go_roundw
            case rel => exact R
            case measure => simp [intOf]; omega
        · have HPP : Hid (parse z len ((at_ : Int) + 1) = (0, (t : Int), false)) := hp
          have HR : Hid (lst z len (a0 : Int) = ([], (t : Int), false)) := hs.out.trans (lscan_bad hf ⟨hlt, h32⟩ hp)
          clear hp h32
          go_wp2_with (go_at_call 48; refine (rparse_eq _ _ _ z _ _ hr hcap HPP).mono ?_; rintro e w' ⟨rfl, hw⟩; replace hw := hw.symm; subst hw)
          go_ret3
          rw [HR.out]
          exact ⟨_, rfl, World.ownsRow_nil _ _ _ _, hbel, by simp, by simp⟩
      · have g32 : (z at_ != 32) = true := by simp [h32]
        have HR : Hid (lst z len (a0 : Int) = (l, (at_ : Int), true)) := hs.out.trans (lscan_stop hf (by intro q; exact h32 q.2))
        clear h32
        go_wp2
        go_ret3
        rw [HR.out]
        exact ⟨_, rfl, hown, hbel, hl, by show l.length ≤ _; omega⟩
    · have hlt' : len ≤ at_ := by omega
      have HR : Hid (lst z len (a0 : Int) = (l, (at_ : Int), true)) := hs.out.trans (lscan_stop hf (by intro q; exact hlt q.1))
      go_wp2
      go_ret3
      rw [HR.out]
      exact ⟨_, rfl, hown, hbel, hl, by show l.length ≤ _; omega⟩
theorem rlist_outside (a : Option Addr) (len cap : Nat) (z : Nat → Int) (at_ : Int) (w : World) (hat : at_ < 0 ∨ (len : Int) < at_) :
    Calls Try.prog 50 #[.slice a len cap, .int .i64 at_] w fun e w' => ListPost (lst z len at_) w e w' := by
  rw [lst_out hat]
  have P0 : ListPost ([], 0, false) w (.returned (.tuple #[.slice none 0 0, .int .i64 0, .bool false])) w := ⟨_, rfl, World.ownsRow_nil _ _ _ _, Below.refl _ _, by simp, by simp⟩
  have PH : Hid (ListPost ([], 0, false) w (.returned (.tuple #[.slice none 0 0, .int .i64 0, .bool false])) w) := P0
  clear P0
  by_cases h0 : at_ < 0
  · go_enter Try.func50, Try.ntmps50
    go_wp2
    go_ret3
    exact PH.out
  · have h1 : (len : Int) < at_ := by omega
    clear hat
    go_enter Try.func50, Try.ntmps50
    go_wp2
    go_ret3
    exact PH.out
theorem rlist_any (a : Option Addr) (len cap : Nat) (z : Nat → Int) (at_ : Int) (w : World) (h : Rd .u8 w a len z) (hcap : len ≤ cap) :
    Calls Try.prog 50 #[.slice a len cap, .int .i64 at_] w fun e w' => ListPost (lst z len at_) w e w' := by
  by_cases hat : at_ < 0 ∨ (len : Int) < at_
  · exact rlist_outside a len cap z at_ w hat
  · obtain ⟨a0, rfl⟩ : ∃ a0 : Nat, at_ = a0 := ⟨at_.toNat, by omega⟩
    exact rlist_inside a len cap z a0 w h hcap (by omega)

/-- The document's List, its answer named. -/
theorem rlist_eq (a : Option Addr) (len cap : Nat) (z : Nat → Int) (at_ : Int) (w : World) (h : Rd .u8 w a len z) (hcap : len ≤ cap) {l : List Int} {t : Int} {b : Bool} (hr : Hid (lst z len at_ = (l, t, b))) :
    Calls Try.prog 50 #[.slice a len cap, .int .i64 at_] w fun e w' => ∃ a' c, e = .returned (.tuple #[.slice a' l.length c, .int .i64 t, .bool b]) ∧ Below w.heap.size w w' ∧ Rd .i64 w' a' l.length (fun i => l.getD i 0) ∧ l.length ≤ c := by
  refine (rlist_any a len cap z at_ w h hcap).mono ?_
  rw [hr.out]
  rintro e w' ⟨v, rfl, hown, hb, hl, hll⟩
  obtain ⟨a', c, rfl, h1, h2⟩ := Rd.own hown hll (fun n hn => by have := hl n hn; exact wf_of_i64 this.1 this.2)
  exact ⟨a', c, rfl, hb, h2, h1⟩

/-- The document's Same of two rows that hold the same. -/
theorem same_yes (a b : Option Addr) (n c d : Nat) (x : Nat → Int) (w : World) (ha : Rd .i64 w a n x) (hb : Rd .i64 w b n x) :
    Calls Try.prog 51 #[.slice a n c, .slice b n d] w fun e w' => e = .returned (.bool true) ∧ Below w.heap.size w w' := by
  have hn := ha.le
  have g0 : ((n : Int) != n) = false := by simp
  go_enter Try.func51, Try.ntmps51
  go_wp2
  go_loopw [5] (fun i wr => ∃ k : Nat, k ≤ n ∧ i = .int .i64 (k : Int) ∧ Below w.heap.size w wr) (fun i _ => n - (intOf i).toNat)
  case atStart => exact ⟨0, by omega, rfl, Below.refl _ _⟩
  case round =>
    obtain ⟨k, hk, rfl, hbel⟩ := hrel
    by_cases hlt : k < n
    · obtain ⟨b1, o1, rfl, hc1, hw1⟩ := (ha.keep hbel).2 k hlt
      obtain ⟨b2, o2, rfl, hc2, hw2⟩ := (hb.keep hbel).2 k hlt
      go_wp2
      go_region
      all_goals
        go_wp2
        go_roundw
        case rel => exact ⟨k + 1, by omega, by go_num, by first | exact hbel | exact hbel.drew | (repeat (first | exact hbel | apply Below.drew))⟩
        case measure => simp [intOf]; omega
    · go_wp2
      go_ret
      exact ⟨rfl, hbel⟩
end Go.Proofs.Ytigmgkcojifbcaa.Dig
