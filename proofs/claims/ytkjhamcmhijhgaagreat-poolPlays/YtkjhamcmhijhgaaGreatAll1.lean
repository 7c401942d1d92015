/- Joined out of the texts DigPlain, DigParse, Frame, DqRing, DigList, Mem, DqKeep, DqKeep3, RoundQuiet, in that order. -/
import Derived.WalkKit
import Derived.Test.YtkjhamcmhijhgaaGreatRows
import Derived.Handy
import Derived.ProofKit
import Derived.OpenShut
import Derived.ShutString
import Derived.ChangeOld
import Derived.Below
import Derived.Deep.Draws
import Derived.Laws.NewBlocks
import Derived.RangeFuncBox
import Derived.RangeFuncNested
import Derived.Deep.RegionHeld
import Derived.Sort.BigQuietIn
import Derived.RangeFuncCalls
/- Plain mathematics of numbers as bytes: what a row of digits is worth, the first place at which a number's text breaks off, and a number's text. It imports nothing of the program. -/
namespace Go.Proofs.YtkjhamcmhijhgaaGreat.Dig

/-- Is c a digit? -/
def dgt (c : Int) : Bool := decide (48 ≤ c ∧ c ≤ 57)
/-- What m digits from a on are worth. -/
def val (z : Nat → Int) (a : Nat) : Nat → Int
  | 0 => 0
  | m + 1 => 10 * val z a m + (z (a + m) - 48)
/-- Are m digits from a on a number's text? -/
def okm (z : Nat → Int) (a m : Nat) : Bool := decide (1 ≤ m ∧ m ≤ 10 ∧ ¬ (1 < m ∧ z a = 48) ∧ val z a m ≤ 2147483647)

/-- The number from a on, m of whose digits have been gone over; f is fuel. -/
def scan (z : Nat → Int) (len a : Nat) : Nat → Nat → Int × Int × Bool
  | 0, m => if m = 0 then (0, (a : Int), false) else (val z a m, ((a + m : Nat) : Int), true)
  | f + 1, m => if a + m < len ∧ dgt (z (a + m)) = true then (if okm z a (m + 1) = true then scan z len a f (m + 1) else (0, ((a + m : Nat) : Int), false))
      else if m = 0 then (0, (a : Int), false) else (val z a m, ((a + m : Nat) : Int), true)
def parse (z : Nat → Int) (len : Nat) (at_ : Int) : Int × Int × Bool :=
  if at_ < 0 ∨ (len : Int) < at_ then (0, 0, false) else scan z len at_.toNat (len - at_.toNat) 0

theorem dgt_iff {c : Int} : dgt c = true ↔ 48 ≤ c ∧ c ≤ 57 := by unfold dgt; simp
theorem dgt_no {c : Int} : dgt c = false ↔ ¬ (48 ≤ c ∧ c ≤ 57) := by unfold dgt; simp
theorem okm_iff {z : Nat → Int} {a m : Nat} : okm z a m = true ↔ (1 ≤ m ∧ m ≤ 10 ∧ ¬ (1 < m ∧ z a = 48) ∧ val z a m ≤ 2147483647) := by unfold okm; exact decide_eq_true_iff

theorem val_bd (z : Nat → Int) (a : Nat) : ∀ m, (∀ j, j < m → dgt (z (a + j)) = true) → 0 ≤ val z a m ∧ val z a m < 10 ^ m
  | 0, _ => by simp [val]
  | m + 1, h => by
    have ih := val_bd z a m (fun j hj => h j (by omega))
    have hd := dgt_iff.1 (h m (by omega))
    simp only [val, Int.pow_succ]
    omega
theorem val_ge (z : Nat → Int) (a : Nat) : ∀ m, 49 ≤ z a → (∀ j, j < m + 1 → dgt (z (a + j)) = true) → 10 ^ m ≤ val z a (m + 1)
  | 0, h0, _ => by simp [val]; omega
  | m + 1, h0, h => by
    have ih := val_ge z a m h0 (fun j hj => h j (by omega))
    have hd := dgt_iff.1 (h (m + 1) (by omega))
    rw [val, Int.pow_succ]
    omega
theorem pow_le_of {n m : Nat} (h : n ≤ m) : (10 : Int) ^ n ≤ 10 ^ m := by
  have := Nat.pow_le_pow_right (n := 10) (by omega) h
  exact_mod_cast this
/-- What the program asks of one digit more is what makes one digit more a number's text. -/
theorem ok_step (z : Nat → Int) (a m : Nat) (hd : ∀ j, j < m + 1 → dgt (z (a + j)) = true) (hm : m = 0 ∨ okm z a m = true) :
    okm z a (m + 1) = true ↔ ¬ ((0 < m ∧ val z a m = 0) ∨ (2147483647 - (z (a + m) - 48)) / 10 < val z a m) := by
  have hdm := dgt_iff.1 (hd m (by omega))
  have bd := val_bd z a m (fun j hj => hd j (by omega))
  rw [okm_iff]
  rcases hm with rfl | hm
  · simp only [val]
    simp
    omega
  · rw [okm_iff] at hm
    obtain ⟨h1, h2, h3, h4⟩ := hm
    obtain ⟨k, rfl⟩ : ∃ k, m = k + 1 := ⟨m - 1, by omega⟩
    have hd0 := dgt_iff.1 (hd 0 (by omega))
    simp only [Nat.add_zero] at hd0
    by_cases h48 : z a = 48
    · have hk : k = 0 := by omega
      subst hk
      simp [val, h48]
    · have g := val_ge z a k (by omega) (fun j hj => hd j (by omega))
      have p1 : (1 : Int) ≤ 10 ^ k := pow_le_of (Nat.zero_le k)
      have g2 := val_ge z a (k + 1) (by omega) (fun j hj => hd j (by omega))
      simp only [val] at g g2 h4 ⊢
      constructor
      · intro h; omega
      · intro h
        refine ⟨by omega, ?_, by omega, by omega⟩
        by_cases hk : k + 1 ≤ 9
        · omega
        · exfalso
          have := pow_le_of (show 10 ≤ k + 1 by omega)
          have e : (10 : Int) ^ 10 = 10000000000 := by decide
          omega
theorem ok_bd {z : Nat → Int} {a m : Nat} (hd : ∀ j, j < m → dgt (z (a + j)) = true) (hm : m = 0 ∨ okm z a m = true) : 0 ≤ val z a m ∧ val z a m ≤ 2147483647 := by
  refine ⟨(val_bd z a m hd).1, ?_⟩
  rcases hm with rfl | hm
  · simp [val]
  · exact (okm_iff.1 hm).2.2.2

theorem scan_hit {z : Nat → Int} {len a m : Nat} (hlt : a + m < len) (hd : dgt (z (a + m)) = true) (hok : okm z a (m + 1) = true) : scan z len a (len - a - m) m = scan z len a (len - a - (m + 1)) (m + 1) := by
  obtain ⟨f, hf⟩ : ∃ f, len - a - m = f + 1 := ⟨len - a - m - 1, by omega⟩
  have e : len - a - (m + 1) = f := by omega
  rw [hf, e, scan, if_pos ⟨hlt, hd⟩, if_pos hok]
theorem scan_bad {z : Nat → Int} {len a m : Nat} (hlt : a + m < len) (hd : dgt (z (a + m)) = true) (hok : ¬ okm z a (m + 1) = true) : scan z len a (len - a - m) m = (0, ((a + m : Nat) : Int), false) := by
  obtain ⟨f, hf⟩ : ∃ f, len - a - m = f + 1 := ⟨len - a - m - 1, by omega⟩
  rw [hf, scan, if_pos ⟨hlt, hd⟩, if_neg hok]
theorem scan_end {z : Nat → Int} {len a m : Nat} (h : ¬ (a + m < len ∧ dgt (z (a + m)) = true)) : scan z len a (len - a - m) m = if m = 0 then (0, (a : Int), false) else (val z a m, ((a + m : Nat) : Int), true) := by
  cases hf : len - a - m with
  | zero => rw [scan]
  | succ f => rw [scan, if_neg h]
theorem parse_in {z : Nat → Int} {len a : Nat} (h : a ≤ len) : parse z len (a : Int) = scan z len a (len - a - 0) 0 := by
  unfold parse; rw [if_neg (by omega)]; simp
theorem parse_out {z : Nat → Int} {len : Nat} {at_ : Int} (h : at_ < 0 ∨ (len : Int) < at_) : parse z len at_ = (0, 0, false) := by
  unfold parse; rw [if_pos h]

/-! A number's text. -/
def txtF : Nat → Nat → List UInt8
  | 0, _ => []
  | f + 1, n => if n ≤ 9 then [UInt8.ofNat (48 + n)] else txtF f (n / 10) ++ [UInt8.ofNat (48 + n % 10)]
def txt (n : Nat) : List UInt8 := txtF 10 n
theorem txtF_fuel : ∀ (f g n : Nat), n < 10 ^ f → f ≤ g → 1 ≤ f → txtF g n = txtF f n
  | 0, _, _, _, _, h => by omega
  | 1, g + 1, n, hn, _, _ => by have : n ≤ 9 := by omega
                                simp [txtF, this]
  | f + 2, g + 1, n, hn, hg, _ => by
    rw [txtF, txtF]
    split
    · rfl
    · rw [txtF_fuel (f + 1) g (n / 10) (by rw [Nat.pow_succ] at hn; omega) (by omega) (by omega)]
  | _ + 1, 0, _, _, h, _ => by omega
theorem txt_small {n : Nat} (h : n ≤ 9) : txt n = [UInt8.ofNat (48 + n)] := by unfold txt; rw [txtF, if_pos h]
theorem txt_big {n : Nat} (h : 9 < n) (hm : n ≤ 2147483647) : txt n = txt (n / 10) ++ [UInt8.ofNat (48 + n % 10)] := by
  unfold txt
  rw [show txtF 10 n = if n ≤ 9 then [UInt8.ofNat (48 + n)] else txtF 9 (n / 10) ++ [UInt8.ofNat (48 + n % 10)] from rfl, if_neg (by omega), txtF_fuel 9 10 (n / 10) (by omega) (by omega) (by omega)]
theorem txtF_len : ∀ f n, (txtF f n).length ≤ f
  | 0, _ => by simp [txtF]
  | f + 1, n => by
    rw [txtF]; split
    · simp
    · have := txtF_len f (n / 10); simp; omega
theorem txt_len (n : Nat) : 1 ≤ (txt n).length ∧ (txt n).length ≤ 10 := by
  refine ⟨?_, txtF_len 10 n⟩
  show 1 ≤ (txtF 10 n).length
  rw [txtF]; split <;> simp
end Go.Proofs.YtkjhamcmhijhgaaGreat.Dig

/- Contracts of the program's and the document's ways to read a number: each answers what the plain function tells, and leaves the world alone. -/
namespace Go.Proofs.YtkjhamcmhijhgaaGreat.Dig
open Go.RowKit
set_option linter.unusedVariables false
set_option linter.unusedSimpArgs false

/-- What is read of a row of numbers of some kind: its cells. -/
def Rd (k : IntKind) (w : World) (a : Option Addr) (len : Nat) (z : Nat → Int) : Prop :=
  len ≤ 1000000000000 ∧ ∀ i, i < len → ∃ b off, a = some ⟨b, off, none⟩ ∧ w.cell? ⟨b, off + i, none⟩ = some (.int k (z i)) ∧ (Lit.int k (z i)).wf = true

theorem ret3 {k1 k2 : IntKind} {n n' t t' : Int} {b b' : Bool} (r : Int × Int × Bool) (h : r = (n', t', b')) (h1 : n = n') (h2 : t = t') (h3 : b = b') :
    Ending.returned (.tuple #[.int k1 n, .int k2 t, .bool b]) = .returned (.tuple #[.int k1 r.1, .int k2 r.2.1, .bool r.2.2]) := by subst h h1 h2 h3; rfl
theorem Rd.le {k : IntKind} {w : World} {a : Option Addr} {len : Nat} {z : Nat → Int} (h : Rd k w a len z) : len ≤ 1000000000000 := h.1
theorem Rd.u8 {w : World} {a : Option Addr} {len : Nat} {z : Nat → Int} (h : Rd .u8 w a len z) {i : Nat} (hi : i < len) :
    ∃ b off, a = some ⟨b, off, none⟩ ∧ w.cell? ⟨b, off + i, none⟩ = some (.int .u8 (z i)) ∧ 0 ≤ z i ∧ z i ≤ 255 := by
  obtain ⟨b, off, h1, h2, h3⟩ := h.2 i hi
  have := bounds_u8 h3
  exact ⟨b, off, h1, h2, by omega, by omega⟩

def PRel (z : Nat → Int) (len a0 : Nat) (n t : Value) : Prop :=
  ∃ m : Nat, a0 + m ≤ len ∧ t = .int .i64 ((a0 : Int) + m) ∧ n = .int .i64 (val z a0 m) ∧ (∀ j, j < m → dgt (z (a0 + j)) = true) ∧ (m = 0 ∨ okm z a0 m = true) ∧ Hid (parse z len (a0 : Int) = scan z len a0 (len - a0 - m) m)

theorem val_ten {z : Nat → Int} {s k : Nat} (hd : ∀ j, j < k → dgt (z (s + j)) = true) (hk : k ≤ 10) : 0 ≤ val z s k ∧ val z s k ≤ 10000000000 := by
  have h := val_bd z s k hd
  have := pow_le_of hk
  have e : (10 : Int) ^ 10 = 10000000000 := by decide
  omega
theorem ret1 {k : IntKind} {n n' : Int} (h : n = n') : Ending.returned (.int k n) = .returned (.int k n') := by rw [h]
/-- What the document's Value tells of a row of digits. -/
def valS (z : Nat → Int) (s len : Nat) : Int := if okm z s len = true then val z s len else -1
theorem Rd.sub {w : World} {b off len : Nat} {z : Nat → Int} {k : IntKind} (h : Rd k w (some ⟨b, off, none⟩) len z) (s l : Nat) (hl : s + l ≤ len) : Rd k w (some ⟨b, off + s, none⟩) l (fun i => z (s + i)) := by
  refine ⟨by have := h.1; omega, fun i hi => ?_⟩
  obtain ⟨b', off', e, hc, hw⟩ := h.2 (s + i) (by omega)
  simp only [Option.some.injEq, Addr.mk.injEq] at e
  obtain ⟨rfl, rfl, _⟩ := e
  exact ⟨b, off + s, rfl, by rw [Nat.add_assoc]; exact hc, hw⟩
theorem valS_neg {z : Nat → Int} {s l : Nat} (h : ¬ okm z s l = true) : valS z s l < 0 := by rw [valS, if_neg h]; omega
theorem valS_pos {z : Nat → Int} {s l : Nat} (h : okm z s l = true) : valS z s l = val z s l := by rw [valS, if_pos h]
def EndRel (z : Nat → Int) (len a0 : Nat) (t : Value) : Prop := ∃ m : Nat, a0 + m ≤ len ∧ t = .int .i64 ((a0 : Int) + m) ∧ (∀ j, j < m → dgt (z (a0 + j)) = true)
def KRel (z : Nat → Int) (len a0 e : Nat) (t : Value) : Prop := ∃ m : Nat, m ≤ e ∧ t = .int .i64 ((a0 : Int) + m + 1) ∧ (m = 0 ∨ okm z a0 m = true) ∧ Hid (parse z len (a0 : Int) = scan z len a0 (len - a0 - m) m)

end Go.Proofs.YtkjhamcmhijhgaaGreat.Dig

/- What each statement's frame asks of an argument that came in: a row of numbers is nil, or leads to cells; and how a walk reads it. -/
namespace Go.Proofs.YtkjhamcmhijhgaaGreat.Frame
open Go.ChangeShapes Go.WideShapes Go.ChangeAt Go.RowKit
open Go.ChangeMaps (open_string shut_string)
set_option linter.unusedVariables false

theorem own : ownKnob Tryz.prog.godebug = none := by kernel_rfl
theorem laidOut : laidOutB Tryz.prog = true := by kernel_rfl

/-- A slice of integers that came in: nil, or a row of 'cap' cells, of which the first 'len' are its elements. -/
def IsRow (k : IntKind) (w : World) (a : Option Addr) (len cap : Nat) (zs : List Int) : Prop :=
  (a = none ∧ len = 0 ∧ cap = 0 ∧ zs = []) ∨
  ∃ x, a = some x ∧ len ≤ cap ∧ cap ≤ maxLen ∧ zs.length = cap ∧ (∀ i, i < zs.length → w.cell? (x.add i) = some (.int k (zs.getD i 0))) ∧ ∀ n ∈ zs, (Lit.int k n).wf = true
theorem IsRow.cap {k : IntKind} {w : World} {a : Option Addr} {len cap : Nat} {zs : List Int} (h : IsRow k w a len cap zs) : len ≤ cap ∧ cap ≤ 9223372036854775807 := by
  rcases h with ⟨_, h1, h2, _⟩ | ⟨x, _, h1, h2, _⟩
  · omega
  · unfold maxLen at h2; omega
theorem IsRow.rd {k : IntKind} {w : World} {a : Option Addr} {len cap : Nat} {zs : List Int} (h : IsRow k w a len cap zs) (hl : len ≤ 1000000000000) : Dig.Rd k w a len (fun i => zs.getD i 0) := by
  refine ⟨hl, fun i hi => ?_⟩
  rcases h with ⟨_, h1, _⟩ | ⟨x, rfl, h1, h2, h3, h4, h5⟩
  · omega
  · have hc := h4 i (by omega)
    obtain ⟨b, off, spot⟩ := x
    have hs : spot = none := by simpa [Addr.add] using World.cell?_spot (h4 0 (by omega))
    subst hs
    refine ⟨b, off, rfl, ?_, ?_⟩
    · by_cases e : i = 0
      · subst e; simpa [Addr.add] using hc
      · simpa [Addr.add, e] using hc
    · show (Lit.int k (zs.getD i 0)).wf = true
      rw [List.getD_eq_getElem?_getD, List.getElem?_eq_getElem (by omega)]
      exact h5 _ (List.getElem_mem _)
/-- The elements alone, as a list. -/
theorem IsRow.list {k : IntKind} {w : World} {a : Option Addr} {len cap : Nat} {zs : List Int} (h : IsRow k w a len cap zs) (hl : len ≤ 1000000000000) :
    ∃ l : List Int, len = l.length ∧ Dig.Rd k w a l.length (fun i => l.getD i 0) ∧ (∀ n ∈ l, (Lit.int k n).wf = true) ∧ (a = none → l.length = 0 ∧ cap = 0) := by
  have hr := h.rd hl
  rcases h with ⟨rfl, rfl, rfl, rfl⟩ | ⟨x, rfl, h1, h2, h3, h4, h5⟩
  · exact ⟨[], rfl, ⟨by simp, fun i hi => by simp at hi⟩, by simp, fun _ => ⟨rfl, rfl⟩⟩
  · have e : (zs.take len).length = len := by rw [List.length_take]; omega
    refine ⟨zs.take len, e.symm, ?_, fun n hn => h5 n (List.mem_of_mem_take hn), by simp⟩
    rw [e]
    refine ⟨hl, fun i hi => ?_⟩
    obtain ⟨b, off, q1, q2, q3⟩ := hr.2 i hi
    have e2 : (zs.take len).getD i 0 = zs.getD i 0 := by
      rw [List.getD_eq_getElem?_getD, List.getD_eq_getElem?_getD, List.getElem?_take, if_pos hi]
    exact ⟨b, off, q1, by show _ = some (Value.int k ((zs.take len).getD i 0)); rw [e2]; exact q2, by show (Lit.int k ((zs.take len).getD i 0)).wf = true; rw [e2]; exact q3⟩
end Go.Proofs.YtkjhamcmhijhgaaGreat.Frame

/- A row in a ring, plainly. -/
namespace Go.Proofs.YtkjhamcmhijhgaaGreat.Dq
set_option linter.unusedVariables false

/-- A ring of n places that bears l from the place t on. -/
structure Ring {α : Type} (d : α) (n t : Nat) (rs l : List α) : Prop where
  len : rs.length = n
  cnt : l.length ≤ n
  top : t < n
  at_ : ∀ i, i < l.length → rs.getD ((t + i) % n) d = l.getD i d
section
variable {α : Type} {d : α} {n t : Nat} {rs l : List α}
theorem mod_inj {n t i j : Nat} (hi : i < n) (hj : j < n) (h : (t + i) % n = (t + j) % n) : i = j := by
  have key : ∀ a b : Nat, a < n → b < n → a ≤ b → (t + a) % n = (t + b) % n → a = b := fun a b ha hb hab h => by
    have h1 := Nat.sub_mod_eq_zero_of_mod_eq h.symm
    rw [show t + b - (t + a) = b - a by omega, Nat.mod_eq_of_lt (by omega)] at h1
    omega
  rcases Nat.le_total i j with q | q
  · exact key i j hi hj q h
  · exact (key j i hj hi q h.symm).symm
theorem Ring.lt (h : Ring d n t rs l) (k : Nat) : (t + k) % n < n := Nat.mod_lt _ (by have := h.top; omega)
theorem getD_set_self {rs : List α} {p : Nat} {x d : α} (h : p < rs.length) : (rs.set p x).getD p d = x := by
  rw [List.getD_eq_getElem?_getD, List.getElem?_set_self (by simpa using h)]; rfl
theorem getD_set_off {rs : List α} {p q : Nat} {x d : α} (h : p ≠ q) : (rs.set p x).getD q d = rs.getD q d := by
  rw [List.getD_eq_getElem?_getD, List.getD_eq_getElem?_getD, List.getElem?_set_ne h]
theorem Ring.push (h : Ring d n t rs l) (hl : l.length < n) (x : α) : Ring d n t (rs.set ((t + l.length) % n) x) (l ++ [x]) :=
  ⟨by rw [List.length_set]; exact h.len, by rw [List.length_append]; exact hl, h.top, fun i hi => by
    rw [List.length_append] at hi
    simp only [List.length_cons, List.length_nil] at hi
    by_cases e : i = l.length
    · subst e
      rw [getD_set_self (by rw [h.len]; exact h.lt _), List.getD_eq_getElem?_getD, List.getElem?_append_right (Nat.le_refl _), Nat.sub_self]
      rfl
    · have hi2 : i < l.length := by omega
      rw [getD_set_off (fun q => e (mod_inj (t := t) hl (by have := h.cnt; omega) q).symm), h.at_ i hi2, List.getD_eq_getElem?_getD, List.getD_eq_getElem?_getD, List.getElem?_append_left hi2]⟩
theorem Ring.pop {x : α} (h : Ring d n t rs (l ++ [x])) (z : α) : Ring d n t (rs.set ((t + l.length) % n) z) l ∧ rs.getD ((t + l.length) % n) d = x := by
  have hc := h.cnt
  rw [List.length_append] at hc
  simp only [List.length_cons, List.length_nil] at hc
  refine ⟨⟨by rw [List.length_set]; exact h.len, by omega, h.top, fun i hi => ?_⟩, ?_⟩
  · rw [getD_set_off (fun q => by have := mod_inj (t := t) (by omega) (by omega) q; omega), h.at_ i (by rw [List.length_append]; omega), List.getD_eq_getElem?_getD, List.getD_eq_getElem?_getD, List.getElem?_append_left hi]
  · rw [h.at_ l.length (by simp), List.getD_eq_getElem?_getD, List.getElem?_append_right (Nat.le_refl _), Nat.sub_self]
    rfl
theorem Ring.steal {x : α} (h : Ring d n t rs (x :: l)) (z : α) : Ring d n ((t + 1) % n) (rs.set ((t + 0) % n) z) l ∧ rs.getD ((t + 0) % n) d = x := by
  have hc := h.cnt
  simp only [List.length_cons] at hc
  refine ⟨⟨by rw [List.length_set]; exact h.len, by omega, h.lt _, fun i hi => ?_⟩, ?_⟩
  · have e : ((t + 1) % n + i) % n = (t + (i + 1)) % n := by
      rw [Nat.mod_add_mod]; congr 1; omega
    rw [e, getD_set_off (fun q => by have := mod_inj (t := t) (by omega) (by omega) q; omega), h.at_ (i + 1) (by simp; omega)]
    rfl
  · rw [h.at_ 0 (by simp)]
    rfl
/-- A new ring, laid out from its beginning on. -/
def laid (d : α) (m : Nat) (l : List α) (k : Nat) : List α := l.take k ++ List.replicate (m - k) d
theorem laid_length {m k : Nat} {l : List α} (hl : l.length ≤ m) (hk : k ≤ l.length) : (laid d m l k).length = m := by simp [laid]; omega
theorem laid_zero {m : Nat} {l : List α} : laid d m l 0 = List.replicate m d := by simp [laid]
theorem laid_set {m k : Nat} {l : List α} (hl : l.length ≤ m) (hk : k < l.length) : (laid d m l k).set k (l.getD k d) = laid d m l (k + 1) := by
  unfold laid
  obtain ⟨r, hr⟩ : ∃ r, m - k = r + 1 := ⟨m - k - 1, by omega⟩
  have e2 : (l.take k).length = k := by rw [List.length_take]; omega
  rw [hr, show m - (k + 1) = r by omega, List.set_append_right _ _ (by omega), e2, Nat.sub_self, List.replicate_succ, List.set_cons_zero, List.take_add_one, List.getElem?_eq_getElem hk, List.getD_eq_getElem?_getD, List.getElem?_eq_getElem hk]
  rw [List.append_assoc]
  rfl
theorem Ring.laid {m : Nat} {l : List α} (hl : l.length ≤ m) (hm : 0 < m) : Ring d m 0 (laid d m l l.length) l :=
  ⟨laid_length hl (Nat.le_refl _), hl, hm, fun i hi => by
    rw [Nat.zero_add, Nat.mod_eq_of_lt (by omega)]
    unfold Dq.laid
    rw [List.take_length, List.getD_eq_getElem?_getD, List.getElem?_append_left hi, ← List.getD_eq_getElem?_getD]⟩
end
/-- The numbers below k. -/
def upTo (k : Nat) : List Int := (List.range k).map fun i : Nat => (i : Int)
theorem upTo_succ (k : Nat) : upTo (k + 1) = upTo k ++ [(k : Int)] := by simp [upTo, List.range_succ]
theorem upTo_length (k : Nat) : (upTo k).length = k := by simp [upTo]
theorem upTo_zero : upTo 0 = [] := rfl
end Go.Proofs.YtkjhamcmhijhgaaGreat.Dq

/- Contracts of the program's and the document's ways to read a list of numbers, and of the document's Same. -/
namespace Go.Proofs.YtkjhamcmhijhgaaGreat.Dig
open Go.RowKit
set_option linter.unusedVariables false
set_option linter.unusedSimpArgs false

/-- The numbers from place a on, each with a blank ahead, behind those of l; f is fuel. -/
def lscan (z : Nat → Int) (len : Nat) : Nat → Nat → List Int → List Int × Int × Bool
  | 0, a, l => (l, (a : Int), true)
  | f + 1, a, l => if a < len ∧ z a = 32 then
      (if (parse z len ((a : Int) + 1)).2.2 = true then lscan z len f (parse z len ((a : Int) + 1)).2.1.toNat (l ++ [(parse z len ((a : Int) + 1)).1]) else ([], (parse z len ((a : Int) + 1)).2.1, false))
      else (l, (a : Int), true)
def lst (z : Nat → Int) (len : Nat) (at_ : Int) : List Int × Int × Bool :=
  if at_ < 0 ∨ (len : Int) < at_ then ([], 0, false) else lscan z len (len - at_.toNat) at_.toNat []
theorem lst_in {z : Nat → Int} {len a : Nat} (h : a ≤ len) : lst z len (a : Int) = lscan z len (len - a) a [] := by
  unfold lst; rw [if_neg (by omega)]; simp
theorem lst_out {z : Nat → Int} {len : Nat} {at_ : Int} (h : at_ < 0 ∨ (len : Int) < at_) : lst z len at_ = ([], 0, false) := by
  unfold lst; rw [if_pos h]
theorem lscan_stop {z : Nat → Int} {len f a : Nat} {l : List Int} (hf : len - a ≤ f) (h : ¬ (a < len ∧ z a = 32)) : lscan z len f a l = (l, (a : Int), true) := by
  cases f with
  | zero => rfl
  | succ f => rw [lscan, if_neg h]
theorem lscan_bad {z : Nat → Int} {len f a : Nat} {l : List Int} {n t : Int} (hf : len - a ≤ f) (h : a < len ∧ z a = 32) (hp : parse z len ((a : Int) + 1) = (n, t, false)) : lscan z len f a l = ([], t, false) := by
  obtain ⟨g, rfl⟩ : ∃ g, f = g + 1 := ⟨f - 1, by omega⟩
  rw [lscan, if_pos h, hp]; simp
theorem lscan_go {z : Nat → Int} {len f a : Nat} {l : List Int} {n : Int} {t : Nat} (hf : len - a ≤ f) (h : a < len ∧ z a = 32) (hp : parse z len ((a : Int) + 1) = (n, (t : Int), true)) :
    lscan z len f a l = lscan z len (f - 1) t (l ++ [n]) := by
  obtain ⟨g, rfl⟩ : ∃ g, f = g + 1 := ⟨f - 1, by omega⟩
  rw [lscan, if_pos h, hp]; simp

/-- What a way to read a number ends with. -/
theorem scan_spec (z : Nat → Int) (len a : Nat) : ∀ f m, a + m ≤ len → len - a - m ≤ f → (∀ j, j < m → dgt (z (a + j)) = true) → (m = 0 ∨ okm z a m = true) →
    (∃ k, m ≤ k ∧ 1 ≤ k ∧ a + k ≤ len ∧ okm z a k = true ∧ (∀ j, j < k → dgt (z (a + j)) = true) ∧ ¬ (a + k < len ∧ dgt (z (a + k)) = true) ∧ scan z len a f m = (val z a k, ((a + k : Nat) : Int), true)) ∨
    (∃ k, m ≤ k ∧ a + k ≤ len ∧ (k = 0 ∨ okm z a k = true) ∧ (∀ j, j < k → dgt (z (a + j)) = true) ∧ ((k = 0 ∧ ¬ (a < len ∧ dgt (z a) = true)) ∨ (a + k < len ∧ dgt (z (a + k)) = true ∧ ¬ okm z a (k + 1) = true)) ∧ scan z len a f m = (0, ((a + k : Nat) : Int), false))
  | 0, m, hm, hf, hd, hok => by
    by_cases h0 : m = 0
    · right
      subst h0
      exact ⟨0, by omega, hm, .inl rfl, hd, .inl ⟨rfl, by omega⟩, by rw [scan]; simp⟩
    · left
      exact ⟨m, by omega, by omega, hm, by rcases hok with h | h; exact absurd h h0; exact h, hd, by omega, by rw [scan, if_neg h0]⟩
  | f + 1, m, hm, hf, hd, hok => by
    by_cases hg : a + m < len ∧ dgt (z (a + m)) = true
    · by_cases ho : okm z a (m + 1) = true
      · have hd' : ∀ j, j < m + 1 → dgt (z (a + j)) = true := fun j hj => by
          by_cases e : j = m
          · rw [e]; exact hg.2
          · exact hd j (by omega)
        have hs : scan z len a (f + 1) m = scan z len a f (m + 1) := by rw [scan, if_pos hg, if_pos ho]
        rw [hs]
        rcases scan_spec z len a f (m + 1) (by omega) (by omega) hd' (.inr ho) with ⟨k, h1, h2⟩ | ⟨k, h1, h2⟩
        · exact .inl ⟨k, by omega, h2⟩
        · exact .inr ⟨k, by omega, h2⟩
      · right
        exact ⟨m, by omega, hm, hok, hd, .inr ⟨hg.1, hg.2, ho⟩, by rw [scan, if_pos hg, if_neg ho]⟩
    · by_cases h0 : m = 0
      · right
        subst h0
        exact ⟨0, by omega, hm, .inl rfl, hd, .inl ⟨rfl, by simpa using hg⟩, by rw [scan, if_neg hg]; simp⟩
      · left
        exact ⟨m, by omega, by omega, hm, by rcases hok with h | h; exact absurd h h0; exact h, hd, hg, by rw [scan, if_neg hg, if_neg h0]⟩
theorem parse_spec (z : Nat → Int) (len a : Nat) (h : a ≤ len) :
    (∃ k, 1 ≤ k ∧ a + k ≤ len ∧ okm z a k = true ∧ (∀ j, j < k → dgt (z (a + j)) = true) ∧ ¬ (a + k < len ∧ dgt (z (a + k)) = true) ∧ parse z len (a : Int) = (val z a k, ((a + k : Nat) : Int), true)) ∨
    (∃ k, a + k ≤ len ∧ (k = 0 ∨ okm z a k = true) ∧ (∀ j, j < k → dgt (z (a + j)) = true) ∧ ((k = 0 ∧ ¬ (a < len ∧ dgt (z a) = true)) ∨ (a + k < len ∧ dgt (z (a + k)) = true ∧ ¬ okm z a (k + 1) = true)) ∧ parse z len (a : Int) = (0, ((a + k : Nat) : Int), false)) := by
  rw [parse_in h]
  rcases scan_spec z len a (len - a - 0) 0 (by omega) (by omega) (by omega) (.inl rfl) with ⟨k, _, h2⟩ | ⟨k, _, h2⟩
  · exact .inl ⟨k, h2⟩
  · exact .inr ⟨k, h2⟩
/-- Read a number from a place on: either a number and the place behind it, or the first wrong place. -/
theorem parse_two (z : Nat → Int) (len a : Nat) (h : a ≤ len) :
    (∃ (n : Int) (t : Nat), a < t ∧ t ≤ len ∧ 0 ≤ n ∧ n ≤ 2147483647 ∧ parse z len (a : Int) = (n, (t : Int), true)) ∨ (∃ t : Nat, a ≤ t ∧ t ≤ len ∧ parse z len (a : Int) = (0, (t : Int), false)) := by
  rcases parse_spec z len a h with ⟨k, h1, h2, h3, h4, h5, h6⟩ | ⟨k, h2, h3, h4, h5, h6⟩
  · have := ok_bd h4 (.inr h3)
    exact .inl ⟨_, a + k, by omega, h2, this.1, this.2, h6⟩
  · exact .inr ⟨a + k, by omega, h2, h6⟩

theorem lt_of_cell {w : World} {p : Addr} {v : Value} (h : w.cell? p = some v) : p.block < w.heap.size := by
  rcases Nat.lt_or_ge p.block w.heap.size with g | g
  · exact g
  · simp [World.cell?, Array.getElem?_eq_none g] at h
theorem Rd.keep {k : IntKind} {w w' : World} {a : Option Addr} {len : Nat} {z : Nat → Int} (h : Rd k w a len z) (hb : Below w.heap.size w w') : Rd k w' a len z := by
  refine ⟨h.1, fun i hi => ?_⟩
  obtain ⟨b, off, e, hc, hw⟩ := h.2 i hi
  exact ⟨b, off, e, by rw [hb.cell (lt_of_cell hc)]; exact hc, hw⟩
/-- What a row of the call's own holds, read. -/
theorem Rd.own {w : World} {base : Nat} {v : Value} {l : List Int} (h : w.ownsRow base 3 1 v l.length (l.map (Value.int .i64))) (hl : l.length ≤ 1000000000000) (hw : ∀ n ∈ l, (Lit.int .i64 n).wf = true) :
    ∃ a cap, v = .slice a l.length cap ∧ l.length ≤ cap ∧ Rd .i64 w a l.length (fun i => l.getD i 0) := by
  have h' := h
  obtain ⟨h1, h2⟩ := h
  rcases h2 with ⟨hv, h0⟩ | ⟨g, cap, cur, hv, hg, hh, hc1, hc2, hc3, hc4⟩
  · have : l = [] := by cases l with
      | nil => rfl
      | cons x l => simp at h0
    subst this
    exact ⟨none, 0, hv, by simp, by simp, fun i hi => by simp at hi⟩
  · refine ⟨_, cap, hv, hc1, hl, fun i hi => ⟨g, 0, rfl, ?_, ?_⟩⟩
    · subst hv
      rw [Nat.zero_add, h'.cellAt i (by omega)]
      simp [List.getD_eq_getElem?_getD, List.getElem?_eq_getElem hi]
    · simp only [List.getD_eq_getElem?_getD, List.getElem?_eq_getElem hi, Option.getD_some]
      exact hw _ (List.getElem_mem hi)

theorem one_new (w : World) (x : Value) (t : TypeId) : ∀ (j : Nat) (u : Value), [x][j]? = some u → (w.alloc (.cells #[x] t)).cell? ((⟨w.heap.size, 0, none⟩ : Addr).add j) = some u := by
  intro j u hj
  match j, hj with
  | 0, hj => simp at hj; subst hj; simp [Addr.add]

theorem wf_of_i64 {n : Int} (h0 : 0 ≤ n) (h1 : n ≤ 2147483647) : (Lit.int .i64 n).wf = true := WalkArith.wf_i64 (by omega)

def LRel (z : Nat → Int) (len a0 base : Nat) (w : World) (v a : Value) (wr : World) : Prop :=
  ∃ (at_ : Nat) (l : List Int) (f : Nat), at_ ≤ len ∧ a = .int .i64 (at_ : Int) ∧ wr.ownsRow base 3 1 v l.length (l.map (Value.int .i64)) ∧ Below base w wr ∧ len - at_ ≤ f ∧ l.length ≤ at_ ∧ (∀ n ∈ l, 0 ≤ n ∧ n ≤ 2147483647) ∧ Hid (lst z len (a0 : Int) = lscan z len f at_ l)
theorem LRel.push {z : Nat → Int} {len a0 base at_ f : Nat} {w w1 : World} {v1 : Value} {l : List Int} {n : Int} {t : Nat} (hlt : at_ < len) (h32 : z at_ = 32) (hp : parse z len ((at_ : Int) + 1) = (n, (t : Int), true)) (h1 : at_ < t) (h2 : t ≤ len) (hn : 0 ≤ n ∧ n ≤ 2147483647)
    (hf : len - at_ ≤ f) (hll : l.length ≤ at_) (hl : ∀ n ∈ l, 0 ≤ n ∧ n ≤ 2147483647) (hs : Hid (lst z len (a0 : Int) = lscan z len f at_ l)) (hown : w1.ownsRow base 3 1 v1 (l.length + 1) (l.map (Value.int .i64) ++ [.int .i64 n])) (hb : Below base w w1) :
    LRel z len a0 base w v1 (.int .i64 (t : Int)) w1 := by
  refine ⟨t, l ++ [n], f - 1, h2, rfl, ?_, hb, by omega, by simp; omega, ?_, hs.out.trans (lscan_go hf ⟨hlt, h32⟩ hp)⟩
  · rw [List.length_append, List.map_append]; exact hown
  · intro m hm
    rcases List.mem_append.1 hm with q | q
    · exact hl m q
    · simp at q; subst q; exact hn

theorem Tryz.info3 : (Tryz.prog.info? 3).map (fun i => (i.zero, i.size, i.bytes)) = some (some (.int .i64 0), 1, 8) := by kernel_rfl
/-- The document's Same of two rows that hold the same. -/
theorem same_yes (a b : Option Addr) (n c d : Nat) (x : Nat → Int) (w : World) (ha : Rd .i64 w a n x) (hb : Rd .i64 w b n x) :
    Calls Tryz.prog 14 #[.slice a n c, .slice b n d] w fun e w' => e = .returned (.bool true) ∧ Below w.heap.size w w' := by
  have hn := ha.le
  have g0 : ((n : Int) != n) = false := by simp
  go_enter Tryz.func14, Tryz.ntmps14
  go_wp2
  go_loopw [5] (fun i wr => ∃ k : Nat, k ≤ n ∧ i = .int .i64 (k : Int) ∧ Below w.heap.size w wr) (fun i _ => n - (intOf i).toNat)
  case atStart => exact ⟨0, by omega, rfl, Below.refl _ _⟩
  case round =>
    obtain ⟨k, hk, rfl, hbel⟩ := hrel
    by_cases hlt : k < n
    · obtain ⟨b1, o1, rfl, hc1, hw1⟩ := (ha.keep hbel).2 k hlt
      obtain ⟨b2, o2, rfl, hc2, hw2⟩ := (hb.keep hbel).2 k hlt
      go_wp2
      go_region
      all_goals
        go_wp2
        go_roundw
        case rel => exact ⟨k + 1, by omega, by go_num, by first | exact hbel | exact hbel.drew | (repeat (first | exact hbel | apply Below.drew))⟩
        case measure => simp [intOf]; omega
    · go_wp2
      go_ret
      exact ⟨rfl, hbel⟩
end Go.Proofs.YtkjhamcmhijhgaaGreat.Dig

/- Objects that live in a block of their own: what a block holds, and what a call leaves as it was. -/
namespace Go.Proofs.YtkjhamcmhijhgaaGreat.Mem
open Go.RowKit Go.Proofs.YtkjhamcmhijhgaaGreat.Dig
set_option linter.unusedVariables false
set_option linter.unusedSimpArgs false

theorem hide {p : Prop} (h : p) : Hid p := h
/-- Block b holds just these cells, none of them frozen. -/
def Is (w : World) (b : Nat) (cs : Array Value) : Prop := ∃ T, w.heap[b]? = some (.cells cs T)

theorem Is.lt {w : World} {b : Nat} {cs : Array Value} (h : Is w b cs) : b < w.heap.size := by
  obtain ⟨T, h⟩ := h
  rcases Nat.lt_or_ge b w.heap.size with q | q
  · exact q
  · rw [Array.getElem?_eq_none q] at h; cases h
theorem Is.cell {w : World} {b : Nat} {cs : Array Value} (h : Is w b cs) (i : Nat) {v : Value} (hv : cs[i]? = some v) : w.cell? ⟨b, i, none⟩ = some v := by
  obtain ⟨T, h⟩ := h
  simp [World.cell?, h, hv]
theorem Is.frozen {w : World} {b : Nat} {cs : Array Value} (h : Is w b cs) (i : Nat) : w.frozen? ⟨b, i, none⟩ = false := by
  obtain ⟨T, h⟩ := h
  simp [World.frozen?, h]
theorem Is.set {w : World} {b : Nat} {cs : Array Value} (h : Is w b cs) (i : Nat) (v : Value) : Is (w.setCell ⟨b, i, none⟩ v) b (cs.setIfInBounds i v) := by
  obtain ⟨T, h⟩ := h
  exact ⟨T, by simp [World.setCell, Array.getElem?_modify, h]⟩
theorem Is.other {w : World} {b : Nat} {cs : Array Value} (h : Is w b cs) {p : Addr} (hp : p.block ≠ b) (v : Value) : Is (w.setCell p v) b cs := by
  obtain ⟨T, h⟩ := h
  exact ⟨T, by rw [Below.heap_setCell _ _ _ _ (Ne.symm hp)]; exact h⟩
theorem Is.alloc {w : World} {b : Nat} {cs : Array Value} (h : Is w b cs) (o : Obj) : Is (w.alloc o) b cs := by
  have hl := h.lt
  obtain ⟨T, h⟩ := h
  exact ⟨T, by rw [Below.heap_alloc _ _ _ hl]; exact h⟩
theorem Is.made (w : World) (cs : Array Value) (T : TypeId) {b : Nat} (hb : b = w.heap.size) : Is (w.alloc (.cells cs T)) b cs := by
  subst hb
  exact ⟨T, by show (w.heap.push _)[_]? = _; simp⟩
theorem Is.drew {w : World} {b : Nat} {cs : Array Value} (h : Is w b cs) : Is w.drew b cs := h
theorem Is.drewN {w : World} {b : Nat} {cs : Array Value} (h : Is w b cs) (n : Nat) : Is (w.drewN n) b cs := h
theorem Is.eq {w : World} {b : Nat} {cs cs' : Array Value} (h : Is w b cs) (e : cs = cs') : Is w b cs' := e ▸ h

/-- From w to w': of what was there nothing has turned but in blocks of S. -/
structure Only (S : Nat → Prop) (w w' : World) : Prop where
  os : w'.os = w.os
  tape : w'.tape = w.tape
  output : w'.output = w.output
  size : w.heap.size ≤ w'.heap.size
  block : ∀ k, k < w.heap.size → ¬ S k → w'.heap[k]? = w.heap[k]?

theorem Only.refl (S : Nat → Prop) (w : World) : Only S w w := ⟨rfl, rfl, rfl, Nat.le_refl _, fun _ _ _ => rfl⟩
theorem Only.trans {S : Nat → Prop} {a b c : World} (h : Only S a b) (k : Only S b c) : Only S a c :=
  ⟨k.os.trans h.os, k.tape.trans h.tape, k.output.trans h.output, Nat.le_trans h.size k.size, fun i hi hs => (k.block i (Nat.lt_of_lt_of_le hi h.size) hs).trans (h.block i hi hs)⟩
/-- .. where the second step may turn what the first one has made. -/
theorem Only.trans' {S S' : Nat → Prop} {a b c : World} (h : Only S a b) (k : Only S' b c) (hs : ∀ i, S' i → S i ∨ a.heap.size ≤ i) : Only S a c :=
  ⟨k.os.trans h.os, k.tape.trans h.tape, k.output.trans h.output, Nat.le_trans h.size k.size, fun i hi hn => (k.block i (Nat.lt_of_lt_of_le hi h.size) (fun q => (hs i q).elim hn (fun r => by omega))).trans (h.block i hi hn)⟩
theorem Only.mono {S S' : Nat → Prop} {w w' : World} (h : Only S w w') (hs : ∀ i, S i → S' i) : Only S' w w' := ⟨h.os, h.tape, h.output, h.size, fun i hi hn => h.block i hi (fun q => hn (hs i q))⟩
theorem Only.drew {S : Nat → Prop} {a w : World} (h : Only S a w) : Only S a w.drew := ⟨h.os, h.tape, h.output, h.size, h.block⟩
theorem Only.drewN {S : Nat → Prop} {a w : World} (h : Only S a w) (n : Nat) : Only S a (w.drewN n) := ⟨h.os, h.tape, h.output, h.size, h.block⟩
theorem Only.alloc {S : Nat → Prop} {a w : World} (h : Only S a w) (o : Obj) : Only S a (w.alloc o) :=
  h.trans ⟨rfl, rfl, rfl, by simp, fun k hk _ => Below.heap_alloc _ _ _ hk⟩
theorem Only.setCell {S : Nat → Prop} {a w : World} (h : Only S a w) {p : Addr} (hp : S p.block ∨ a.heap.size ≤ p.block) (u : Value) : Only S a (w.setCell p u) :=
  h.trans' (S' := fun k => k = p.block) ⟨rfl, rfl, rfl, by simp [World.setCell], fun k hk hn => Below.heap_setCell _ _ _ _ hn⟩ (fun i e => e ▸ hp)
/-- .. where one block alone may turn. -/
theorem Only.put {b : Nat} {a w : World} (h : Only (fun k => k = b) a w) (i : Nat) (u : Value) : Only (fun k => k = b) a (w.setCell ⟨b, i, none⟩ u) := h.setCell (p := ⟨b, i, none⟩) (.inl rfl) u
theorem Only.below {S : Nat → Prop} {w w' : World} (h : Only S w w') {B : Nat} (hs : ∀ k, S k → B ≤ k) (hB : B ≤ w.heap.size) : Below B w w' :=
  ⟨h.os, h.tape, h.output, h.size, fun k hk => h.block k (Nat.lt_of_lt_of_le hk hB) (fun q => by have := hs k q; omega)⟩
theorem Only.of_below {S : Nat → Prop} {w w' : World} (h : Below w.heap.size w w') : Only S w w' := ⟨h.os, h.tape, h.output, h.size, fun k hk _ => h.block k hk⟩
theorem _root_.Go.RowKit.Below.only {B : Nat} {a w w' : World} {S : Nat → Prop} (h : Below B a w) (k : Only S w w') (hs : ∀ i, S i → B ≤ i) (hB : B ≤ w.heap.size) : Below B a w' := h.trans (k.below hs hB)
theorem Is.keep {w w' : World} {b : Nat} {cs : Array Value} (h : Is w b cs) {S : Nat → Prop} (ho : Only S w w') (hb : ¬ S b) : Is w' b cs := by
  have hl := h.lt
  obtain ⟨T, h⟩ := h
  exact ⟨T, by rw [ho.block b hl hb]; exact h⟩
theorem Is.below {w w' : World} {b : Nat} {cs : Array Value} (h : Is w b cs) (ho : Below w.heap.size w w') : Is w' b cs := h.keep (Only.of_below (S := fun _ => False) ho) (fun q => q)
theorem Only.cell {S : Nat → Prop} {w w' : World} (h : Only S w w') {p : Addr} {v : Value} (hc : w.cell? p = some v) (hp : ¬ S p.block) : w'.cell? p = some v := by
  rw [← hc]
  exact World.cell?_of_block (w := w) (h.block p.block (lt_of_cell hc) hp)
theorem _root_.Go.Proofs.YtkjhamcmhijhgaaGreat.Dig.Rd.only {k : IntKind} {w w' : World} {a : Option Addr} {len : Nat} {z : Nat → Int} (h : Rd k w a len z) {S : Nat → Prop} (ho : Only S w w') (hs : ∀ x, a = some x → ¬ S x.block) : Rd k w' a len z := by
  refine ⟨h.1, fun i hi => ?_⟩
  obtain ⟨b, off, e, hc, hw⟩ := h.2 i hi
  exact ⟨b, off, e, ho.cell hc (by exact hs ⟨b, off, none⟩ e), hw⟩
theorem _root_.Go.Proofs.YtkjhamcmhijhgaaGreat.Dig.Rd.below {k : IntKind} {B : Nat} {w w' : World} {a : Option Addr} {len : Nat} {z : Nat → Int} (h : Rd k w a len z) (ho : Below B w w') (hs : ∀ x, a = some x → x.block < B) : Rd k w' a len z := by
  refine ⟨h.1, fun i hi => ?_⟩
  obtain ⟨b, off, e, hc, hw⟩ := h.2 i hi
  exact ⟨b, off, e, by rw [ho.cell (by exact hs ⟨b, off, none⟩ e)]; exact hc, hw⟩
/-- What a call left as it was, as two rules for a walk. -/
theorem bcell {W w1 : World} (hb : Below W.heap.size W w1) : (∀ b o, b < W.heap.size → w1.cell? ⟨b, o, none⟩ = W.cell? ⟨b, o, none⟩) ∧ (∀ b o, b < W.heap.size → w1.frozen? ⟨b, o, none⟩ = W.frozen? ⟨b, o, none⟩) :=
  ⟨fun b o h => hb.cell (p := ⟨b, o, none⟩) h, fun b o h => hb.frozen (p := ⟨b, o, none⟩) h⟩
/-- A block of four cells, cell by cell. -/
theorem Is.four {w : World} {b : Nat} {v0 v1 v2 v3 : Value} (h : Is w b #[v0, v1, v2, v3]) :
    (w.cell? ⟨b, 0, none⟩ = some v0 ∧ w.cell? ⟨b, 1, none⟩ = some v1 ∧ w.cell? ⟨b, 2, none⟩ = some v2 ∧ w.cell? ⟨b, 3, none⟩ = some v3) ∧
    w.frozen? ⟨b, 0, none⟩ = false ∧ w.frozen? ⟨b, 1, none⟩ = false ∧ w.frozen? ⟨b, 2, none⟩ = false ∧ w.frozen? ⟨b, 3, none⟩ = false :=
  ⟨⟨h.cell 0 rfl, h.cell 1 rfl, h.cell 2 rfl, h.cell 3 rfl⟩, h.frozen 0, h.frozen 1, h.frozen 2, h.frozen 3⟩
/-- Two blocks that were laid ahead of a call, behind it. -/
theorem two_boxes {w w' : World} {c d : Array Value} {T U : TypeId} (hb : Below ((w.alloc (.cells c T)).alloc (.cells d U)).heap.size ((w.alloc (.cells c T)).alloc (.cells d U)) w') :
    Is w' w.heap.size c ∧ Is w' (w.heap.size + 1) d ∧ Below w.heap.size w w' ∧ w.heap.size + 1 < w'.heap.size := by
  have hs := hb.size
  simp at hs
  exact ⟨((Is.made w c T rfl).alloc _).below hb, (Is.made _ d U (by simp)).below hb, (((Below.refl _ _).alloc (Nat.le_refl _) _).alloc (by simp) _).trans (hb.mono (by simp; omega)), by omega⟩
/-- A row that is read stays while other blocks are written. -/
theorem _root_.Go.Proofs.YtkjhamcmhijhgaaGreat.Dig.Rd.put {k : IntKind} {w : World} {a : Option Addr} {len : Nat} {z : Nat → Int} (h : Rd k w a len z) {p : Addr} (hp : ∀ x, a = some x → x.block ≠ p.block) (v : Value) : Rd k (w.setCell p v) a len z := by
  refine ⟨h.1, fun i hi => ?_⟩
  obtain ⟨b, off, e, hc, hw⟩ := h.2 i hi
  exact ⟨b, off, e, by rw [World.cell?_of_block (w := w) (w' := w.setCell p v) (a := ⟨b, off + i, none⟩) (Below.heap_setCell _ _ _ _ (hp ⟨b, off, none⟩ e))]; exact hc, hw⟩
/-- .. an empty row asks nothing of its address. -/
theorem _root_.Go.Proofs.YtkjhamcmhijhgaaGreat.Dig.Rd.only' {k : IntKind} {w w' : World} {a : Option Addr} {len : Nat} {z : Nat → Int} (h : Rd k w a len z) {S : Nat → Prop} (ho : Only S w w') (hs : 0 < len → ∀ x, a = some x → ¬ S x.block) : Rd k w' a len z := by
  refine ⟨h.1, fun i hi => ?_⟩
  obtain ⟨b, off, e, hc, hw⟩ := h.2 i hi
  exact ⟨b, off, e, ho.cell hc (by exact hs (by omega) ⟨b, off, none⟩ e), hw⟩
theorem _root_.Go.Proofs.YtkjhamcmhijhgaaGreat.Dig.Rd.lt {k : IntKind} {w : World} {a : Option Addr} {len : Nat} {z : Nat → Int} (h : Rd k w a len z) (hl : 0 < len) : ∀ x, a = some x → x.block < w.heap.size := by
  obtain ⟨b, off, rfl, hc, _⟩ := h.2 0 hl
  rintro x hx
  obtain rfl := Option.some.inj hx
  exact lt_of_cell hc
end Go.Proofs.YtkjhamcmhijhgaaGreat.Mem

/- What a loop over a function keeps: boxes of variables, and what was there; and where one block may turn. -/
namespace Go.Proofs.YtkjhamcmhijhgaaGreat.Dq
open Go.RowKit Go.Proofs.YtkjhamcmhijhgaaGreat.Mem
set_option linter.unusedVariables false
set_option linter.unusedSimpArgs false

/-- A block of cells, while one that is no cells turns. -/
theorem is_off {W V : World} {b : Nat} {cs : Array Value} (h : Is W b cs) {row : Option Nat} (hg : W.grownBy V row) (hr : ∀ r, row = some r → ∃ o : Obj, W.heap[r]? = some o ∧ o.isCells = false) : Is V b cs :=
  h.keep (S := fun k => row = some k) ⟨hg.os, hg.tape, hg.output, hg.size, fun k hk hn => hg.block k hk (fun e => hn e.symm)⟩ (fun q => by
    obtain ⟨T, hT⟩ := h
    obtain ⟨o, h1, h2⟩ := hr _ q
    rw [hT] at h1; cases h1; cases h2)
theorem only_off {S : Nat → Prop} {w W V : World} {B : Nat} (h : Only S w W) (hB : w.heap.size ≤ B) {row : Option Nat} (hg : W.grownBy V row) (hr : ∀ r, row = some r → B ≤ r ∧ ∃ o : Obj, W.heap[r]? = some o ∧ o.isCells = false) : Only S w V :=
  h.trans' (S' := fun k => row = some k) ⟨hg.os, hg.tape, hg.output, hg.size, fun k hk hn => hg.block k hk (fun e => hn e.symm)⟩ (fun i e => .inr (Nat.le_trans hB (hr i e).1))
/-- What a loop keeps that turns blocks of S. -/
structure Fo (S : Nat → Prop) (w : World) (bs : List (Nat × Array Value)) (W : World) : Prop where
  only : Only S w W
  boxes : ∀ r ∈ bs, Is W r.1 r.2
section
variable {S : Nat → Prop} {w W V : World} {bs bs' : List (Nat × Array Value)}
theorem Fo.start (S : Nat → Prop) (w : World) : Fo S w [] w := ⟨Only.refl _ _, by simp⟩
theorem Fo.cell (h : Fo S w bs W) {b : Nat} {c : Array Value} (hb : (b, c) ∈ bs) (i : Nat) {v : Value} (hv : c[i]? = some v) : W.cell? ⟨b, i, none⟩ = some v ∧ W.frozen? ⟨b, i, none⟩ = false := ⟨(h.boxes _ hb).cell i hv, (h.boxes _ hb).frozen i⟩
theorem Fo.one (h : Fo S w bs W) {b : Nat} {v : Value} (hb : (b, #[v]) ∈ bs) : W.cell? ⟨b, 0, none⟩ = some v ∧ W.frozen? ⟨b, 0, none⟩ = false := h.cell hb 0 rfl
theorem Fo.off {B : Nat} (h : Fo S w bs W) (hB : w.heap.size ≤ B) {row : Option Nat} (hg : W.grownBy V row) (hr : ∀ r, row = some r → B ≤ r ∧ ∃ o : Obj, W.heap[r]? = some o ∧ o.isCells = false) : Fo S w bs V :=
  ⟨only_off h.only hB hg hr, fun r hr' => is_off (h.boxes r hr') hg (fun q e => (hr q e).2)⟩
theorem Fo.keep (h : Fo S w bs W) (hb : Below W.heap.size W V) : Fo S w bs V := ⟨h.only.trans (Only.of_below hb), fun r hr => (h.boxes r hr).below hb⟩
theorem Fo.push (h : Fo S w bs W) (cs : Array Value) (T : TypeId) {b : Nat} (hb : b = W.heap.size) : Fo S w ((b, cs) :: bs) (W.alloc (.cells cs T)) :=
  ⟨h.only.alloc _, fun r hr => by
    rcases List.mem_cons.1 hr with rfl | q
    · exact Is.made W cs T hb
    · exact (h.boxes r q).alloc _⟩
theorem Fo.sub (h : Fo S w bs W) (hs : ∀ r ∈ bs', r ∈ bs) : Fo S w bs' W := ⟨h.only, fun r hr => h.boxes r (hs r hr)⟩
/-- A cell of a box is turned. -/
theorem Fo.set {b i : Nat} {c : Array Value} {u : Value} (h : Fo S w ((b, c) :: bs) W) (hb : S b ∨ w.heap.size ≤ b) (hn : ∀ r ∈ bs, r.1 ≠ b) : Fo S w ((b, c.setIfInBounds i u) :: bs) (W.setCell ⟨b, i, none⟩ u) :=
  ⟨h.only.setCell (p := ⟨b, i, none⟩) hb u, fun r hr => by
    rcases List.mem_cons.1 hr with rfl | q
    · exact (h.boxes (b, c) (by simp)).set i u
    · exact (h.boxes r (List.mem_cons_of_mem _ q)).other (p := ⟨b, i, none⟩) (Ne.symm (hn r q)) u⟩
theorem Fo.drewN (h : Fo S w bs W) (m : Nat) : Fo S w bs (W.drewN m) := ⟨h.only.drewN m, fun r hr => (h.boxes r hr).drewN m⟩
/-- From w on nothing older than B has turned. -/
theorem _root_.Go.Proofs.YtkjhamcmhijhgaaGreat.Mem.Only.of_below' {B : Nat} (h : Below B W V) : Only (fun k => B ≤ k) W V := ⟨h.os, h.tape, h.output, h.size, fun k hk hn => h.block k (Nat.lt_of_not_le hn)⟩
theorem keeps_below (B : Nat) (hb : Below W.heap.size W V) : KeepsFrom B W V := ⟨hb.size, fun k o _ hk _ => (hb.block k (Array.getElem?_eq_some_iff.1 hk).1).trans hk⟩
theorem below_of_drewN (m : Nat) : Below w.heap.size w (w.drewN m) := ⟨rfl, rfl, rfl, Nat.le_refl _, fun _ _ => rfl⟩
theorem grown_of_below (h : Below W.heap.size W V) : W.grownBy V none := ⟨h.os, h.tape, h.output, h.size, fun k hk _ => h.block k hk⟩
theorem abides {B : Nat} {J : List Int → World → Prop} (hJ : AbidesFrom B J) {s : List Int} (h : J s W) (hb : Below W.heap.size W V) : J s V := hJ s W V none h (grown_of_below hb) (fun q e => by cases e)
end
end Go.Proofs.YtkjhamcmhijhgaaGreat.Dq

/- Three cells of a block, the others being as they are. -/
namespace Go.Proofs.YtkjhamcmhijhgaaGreat.Dq
open Go.RowKit Go.Proofs.YtkjhamcmhijhgaaGreat.Mem
set_option linter.unusedVariables false
set_option linter.unusedSimpArgs false

def put3 (cs : Array Value) (o : Nat) (x y z : Value) : Array Value := ((cs.setIfInBounds o x).setIfInBounds (o + 1) y).setIfInBounds (o + 2) z
section
variable {cs : Array Value} {o : Nat} {x y z : Value}
theorem put3_size : (put3 cs o x y z).size = cs.size := by simp [put3]
theorem put3_0 (h : o + 3 ≤ cs.size) : (put3 cs o x y z)[o]? = some x := by
  unfold put3
  rw [Array.getElem?_setIfInBounds_ne (by omega), Array.getElem?_setIfInBounds_ne (by omega), Array.getElem?_setIfInBounds_self_of_lt (by omega)]
theorem put3_1 (h : o + 3 ≤ cs.size) : (put3 cs o x y z)[o + 1]? = some y := by
  unfold put3
  rw [Array.getElem?_setIfInBounds_ne (by omega), Array.getElem?_setIfInBounds_self_of_lt (by simp; omega)]
theorem put3_2 (h : o + 3 ≤ cs.size) : (put3 cs o x y z)[o + 2]? = some z := by
  unfold put3
  rw [Array.getElem?_setIfInBounds_self_of_lt (by simp; omega)]
theorem put3_off {i : Nat} (h : i < o ∨ o + 3 ≤ i) : (put3 cs o x y z)[i]? = cs[i]? := by
  unfold put3
  rw [Array.getElem?_setIfInBounds_ne (by omega), Array.getElem?_setIfInBounds_ne (by omega), Array.getElem?_setIfInBounds_ne (by omega)]
theorem put3_set0 (u : Value) : (put3 cs o x y z).setIfInBounds o u = put3 cs o u y z := by
  apply Array.ext_getElem?
  intro i
  simp only [put3, Array.getElem?_setIfInBounds, Array.size_setIfInBounds]
  grind
theorem put3_set1 (u : Value) : (put3 cs o x y z).setIfInBounds (o + 1) u = put3 cs o x u z := by
  apply Array.ext_getElem?
  intro i
  simp only [put3, Array.getElem?_setIfInBounds, Array.size_setIfInBounds]
  grind
theorem put3_set2 (u : Value) : (put3 cs o x y z).setIfInBounds (o + 2) u = put3 cs o x y u := by
  apply Array.ext_getElem?
  intro i
  simp only [put3, Array.getElem?_setIfInBounds, Array.size_setIfInBounds]
  grind
/-- Another cell of the block is turned. -/
theorem put3_swap {i : Nat} (h : i < o ∨ o + 3 ≤ i) (u : Value) : (put3 cs o x y z).setIfInBounds i u = put3 (cs.setIfInBounds i u) o x y z := by
  apply Array.ext_getElem?
  intro j
  simp only [put3, Array.getElem?_setIfInBounds, Array.size_setIfInBounds]
  grind
theorem is3 {w : World} {b : Nat} (h : Is w b (put3 cs o x y z)) (hf : o + 3 ≤ cs.size) : w.cell? ⟨b, o, none⟩ = some x ∧ w.cell? ⟨b, o + 1, none⟩ = some y ∧ w.cell? ⟨b, o + 2, none⟩ = some z := ⟨h.cell o (put3_0 hf), h.cell (o + 1) (put3_1 hf), h.cell (o + 2) (put3_2 hf)⟩
theorem is3_set0 {w : World} {b : Nat} (h : Is w b (put3 cs o x y z)) (u : Value) : Is (w.setCell ⟨b, o, none⟩ u) b (put3 cs o u y z) := by rw [← put3_set0 (x := x)]; exact h.set o u
theorem is3_set1 {w : World} {b : Nat} (h : Is w b (put3 cs o x y z)) (u : Value) : Is (w.setCell ⟨b, o + 1, none⟩ u) b (put3 cs o x u z) := by rw [← put3_set1 (y := y)]; exact h.set (o + 1) u
theorem is3_set2 {w : World} {b : Nat} (h : Is w b (put3 cs o x y z)) (u : Value) : Is (w.setCell ⟨b, o + 2, none⟩ u) b (put3 cs o x y u) := by rw [← put3_set2 (z := z)]; exact h.set (o + 2) u
end
end Go.Proofs.YtkjhamcmhijhgaaGreat.Dq

/- A region in a round of a range over a function, whose operations read alone, but for the last one, a store behind all others: one walk in the text's order serves every order. -/
namespace Go.Proofs.YtkjhamcmhijhgaaGreat.Round
open Go Go.RowKit
set_option linter.unusedVariables false
set_option linter.unusedSimpArgs false

section
variable {F : Fence} {n : Nat} {P : Program} {ops ops' : Array Oper} {md : Region.Mode} {C : World → Prop} {l : Nat}
def skipOf (o : Oper) : Oper := { o with op := .assign (.const undef), dst := none, guard := none }
def noDefer (ops : Array Oper) : Bool := ops.all fun o => match o.op with | .defer _ => false | _ => true
theorem noDefer_spec (h : noDefer ops = true) {i : Nat} {o : Oper} (ho : ops[i]? = some o) (c : Call) : o.op ≠ .defer c := by
  intro e
  have := Array.all_eq_true_iff_forall_mem.1 h o (Array.mem_of_getElem? ho)
  rw [e] at this
  cases this
/-- Edges lead back, and the last operation waits for all others. -/
def backB (ops : Array Oper) : Bool := (List.range ops.size).all fun i => match ops[i]? with | some o => o.after.all fun e => decide (e.on < i) | none => true
def lastB (md : Region.Mode) (ops : Array Oper) (k : Nat) : Bool := match ops[k]? with | some o => (List.range k).all fun j => o.after.any fun e => e.on == j && Region.binds md e | none => false
theorem backB_spec (h : backB ops = true) {i : Nat} {o : Oper} (ho : ops[i]? = some o) {e : _} (he : e ∈ o.after) : e.on < i := by
  unfold backB at h
  have h1 := List.all_eq_true.1 h i (List.mem_range.2 (Array.getElem?_eq_some_iff.1 ho).1)
  rw [ho] at h1
  exact of_decide_eq_true (Array.all_eq_true_iff_forall_mem.1 h1 e he)
/-- While one has not come up, one may. -/
theorem ready_some (hb : backB ops = true) {listed : Array Bool} (hs : listed.size = ops.size) {k : Nat} (hk : listed.getD k true = false) : Region.ready md ops listed ≠ [] := by
  have key : ∀ k, listed.getD k true = false → ∃ j, listed.getD j true = false ∧ ∀ i, i < j → listed.getD i true = true := by
    intro k
    induction k using Nat.strongRecOn with
    | ind k ih =>
      intro hk
      by_cases q : ∃ i, i < k ∧ listed.getD i true = false
      · obtain ⟨i, hi, h⟩ := q
        exact ih i hi h
      · exact ⟨k, hk, fun i hi => by
          cases e : listed.getD i true with
          | true => rfl
          | false => exact absurd ⟨i, hi, e⟩ q⟩
  obtain ⟨j, hj, hall⟩ := key k hk
  have hjs : j < ops.size := by
    apply Nat.lt_of_not_le
    intro q
    simp [Array.getD, show ¬ j < listed.size by omega] at hj
  intro h0
  have : j ∈ Region.ready md ops listed := mem_ready.2 ⟨hj, ops[j], by simp [hjs], fun e he _ => by
    have hlt := backB_spec hb (i := j) (o := ops[j]) (by simp [hjs]) he
    have := hall _ hlt
    have hls : e.on < listed.size := by omega
    simp [Array.getD, hls] at this ⊢
    exact this⟩
  rw [h0] at this
  cases this
theorem wpIn_of_quiet_round {o : Oper} {a : Act} {K : Act → Prop} {K' : Act → World → Prop} {Q' : Exit → Act → World → Prop} {w : World} (hnd : ∀ c, o.op ≠ .defer c) (hw : C w) (h : ∀ a w', C w' → K a → K' a w')
    (ha : o.askedIn F P a C) (hh : o.quietIn F n P a C K) : o.wpIn (F.inRound l) n P a w K' Q' := by
  obtain ⟨v, h1, h2⟩ := hh
  have h3 := h1 w hw
  unfold Oper.quietAtIn at h3
  unfold Oper.wpIn
  refine ⟨ha w hw, ?_⟩
  rw [Oper.semAt_eq _ _ _ hnd]
  generalize (execOp a.eval o).run P w = r at *
  cases r with
  | ok x w' =>
    cases x <;> simp only [Oper.quietUponIn] at h3 <;> simp only [Oper.uponIn]
    case value u =>
      obtain ⟨e1, e2⟩ := h3
      rw [e1, e2]
      exact h _ _ hw h2
    case skip =>
      obtain ⟨e1, e2⟩ := h3
      rw [e1, ← e2]
      exact h _ _ hw h2
    case enter f args =>
      obtain ⟨e1, hd, hc⟩ := h3
      rw [e1]
      exact ⟨hd, (CallsIn.inRound l hc).mono fun e w'' ⟨he, hw''⟩ => by subst he; exact h _ _ hw'' h2⟩
  | halt x w' => simp only [Oper.quietUponIn] at h3
theorem wpOpIn_of_qOpIn_round {i : Nat} {a : Act} {K : Act → Prop} {K' : Act → World → Prop} {Q' : Exit → Act → World → Prop} {w : World} (hnd : noDefer ops = true) (hy : yielded ops' = yielded ops) (hi : ops'[i]? = ops[i]?) (hC : C w) (h : ∀ a w', C w' → K a → K' a w')
    (hh : qOpIn F n P ops' C i K a) : wpOpIn (F.inRound l) n P ops Q' i K' a w := by
  unfold qOpIn at hh
  unfold wpOpIn
  rw [hi, hy] at hh
  split
  · rename_i ho; simp only [ho] at hh; exact h _ _ hC hh
  · rename_i o ho
    simp only [ho] at hh
    obtain ⟨ha, hh⟩ := hh
    split
    · rename_i hw; simp only [hw, if_true] at hh; exact wpIn_of_quiet_round (noDefer_spec hnd ho) hC h ha hh
    · rename_i hw; simp only [hw] at hh; exact ⟨ha w hC, h _ _ hC hh⟩
theorem getD_set_same {listed : Array Bool} {k : Nat} (b : Bool) (hk : k < listed.size) : (listed.setIfInBounds k true).getD k b = true := by
  simp [Array.getD, hk]
theorem listed_default {listed : Array Bool} {j : Nat} (hj : j < listed.size) (b c : Bool) : listed.getD j b = listed.getD j c := by simp [Array.getD, hj]
/-- While the last one has not come up. -/
theorem any_of_quiet_last {Q' : Exit → Act → World → Prop} {k : Nat} {o : Oper} (hnd : noDefer ops = true) (hb : backB ops = true) (hk : ops.size = k + 1) (ho : ops[k]? = some o) (hl : lastB md ops k = true) (hsz : ops'.size = ops.size) (hsame : ∀ i, i ≠ k → ops'[i]? = ops[i]?) (hk' : ops'[k]? = some (skipOf o)) (hdst : o.dst = none) :
    ∀ (fuel : Nat) (listed : Array Bool) (a : Act) (w : World), listed.size = ops.size → listed.getD k true = false → C w →
      wpAnyQIn F n P md ops' C (fun a' => ∀ w', C w' → wpOpIn (F.inRound l) n P ops Q' k (fun a w => Q' .normal a w) a' w') fuel listed a → wpAnyIn (F.inRound l) n P md ops Q' fuel listed a w := by
  have hafter : ∀ i, (ops'[i]?).map Oper.after = (ops[i]?).map Oper.after := fun i => by
    by_cases e : i = k
    · subst e; rw [hk', ho]; rfl
    · rw [hsame i e]
  have hready : ∀ listed, Region.ready md ops' listed = Region.ready md ops listed := fun listed => by
    unfold Region.ready
    rw [hsz]
    apply List.filter_congr
    intro i _
    have := hafter i
    cases h1 : ops'[i]? with
    | none => rw [h1] at this; cases h2 : ops[i]? with
      | none => rfl
      | some x => rw [h2] at this; cases this
    | some y => rw [h1] at this; cases h2 : ops[i]? with
      | none => rw [h2] at this; cases this
      | some x => rw [h2] at this; simp at this; simp [this]
  have hyield : yielded ops' = yielded ops := by
    funext tmps j
    unfold yielded
    have : (ops'[j]?).bind (·.dst) = (ops[j]?).bind (·.dst) := by
      by_cases e : j = k
      · subst e; rw [hk', ho]; simp [skipOf, hdst]
      · rw [hsame j e]
    rw [this]
  intro fuel
  induction fuel with
  | zero =>
    intro listed a w hs hkl hC h
    have h0 : Region.ready md ops' listed = [] := h.1
    rw [hready] at h0
    exact absurd h0 (ready_some hb hs hkl)
  | succ fuel ih =>
    intro listed a w hs hkl hC h
    refine ⟨fun h0 => absurd h0 (ready_some hb hs hkl), fun i hi => ?_⟩
    have h1 := h.2 i (by rw [hready]; exact hi)
    by_cases e : i = k
    · subst e
      have hall : ∀ j, j < i → listed.getD j true = true := fun j hj => by
        obtain ⟨_, o2, ho2, h2⟩ := mem_ready.1 hi
        rw [ho] at ho2
        obtain rfl := Option.some.inj ho2
        unfold lastB at hl
        rw [ho] at hl
        have := List.all_eq_true.1 hl j (List.mem_range.2 hj)
        obtain ⟨q, hqs, hq⟩ := Array.any_eq_true.1 this
        rw [Bool.and_eq_true, beq_iff_eq] at hq
        rw [listed_default (by omega) true false, ← hq.1]
        exact h2 _ (Array.getElem_mem hqs) hq.2
      have hr0 : Region.ready md ops (listed.setIfInBounds i true) = [] := by
        rw [List.eq_nil_iff_forall_not_mem]
        intro j hj
        obtain ⟨h2, o2, ho2, _⟩ := mem_ready.1 hj
        have hjs : j < ops.size := (Array.getElem?_eq_some_iff.1 ho2).1
        by_cases ej : j = i
        · subst ej; rw [getD_set_same true (by omega)] at h2; cases h2
        · rw [getD_set_ne true (Ne.symm ej), hall j (by omega)] at h2; cases h2
      unfold qOpIn at h1
      rw [hk'] at h1
      obtain ⟨_, h1⟩ := h1
      have hw : Region.wanted (skipOf o) (yielded ops' a.tmps) = true := rfl
      rw [if_pos hw] at h1
      obtain ⟨v, _, h1⟩ := h1
      have h1' : wpAnyQIn F n P md ops' C (fun a' => ∀ w', C w' → wpOpIn (F.inRound l) n P ops Q' i (fun a w => Q' .normal a w) a' w') fuel (listed.setIfInBounds i true) a := h1
      have hQ : ∀ w', C w' → wpOpIn (F.inRound l) n P ops Q' i (fun a w => Q' .normal a w) a w' := by
        cases fuel with
        | zero => exact h1'.2
        | succ f => exact h1'.1 (by rw [hready]; exact hr0)
      exact wpOpIn_mono (fun a' w' q => wpAnyIn_done hr0 q fuel) (hQ w hC)
    · exact wpOpIn_of_qOpIn_round hnd hyield (hsame i e) hC (fun a' w' hC' h' => ih _ a' w' (by simp [hs]) (by rw [getD_set_ne true e]; exact hkl) hC' h') h1
theorem wpQuietIn_last {Q : Act → Prop} {a : Act} {o : Oper} (h : Q a) : wpQuietIn F n P ops C Q [skipOf o] a := by
  refine wpQuietIn_step (fun w _ f hf => by simp [Oper.about, skipOf] at hf) (fun K hK => ?_)
  rw [if_pos (by rfl)]
  exact ⟨undef, fun w _ => ⟨rfl, rfl⟩, hK _ (wpQuietIn_nil h)⟩
/-- The region. C: 'some draws later'. -/
theorem wpIn_round_store {id k : Nat} {Q : Exit → Act → World → Prop} {a : Act} {w : World} {os : List Oper} {o : Oper} (hm : P.follows .mixedOrders = true) (ho : os[k]? = some o) (hk : os.length = k + 1) (hdst : o.dst = none)
    (hnd : noDefer os.toArray = true) (hb : backB os.toArray = true) (hl : lastB .any os.toArray k = true) (hB : Region.lexB .any (os.set k (skipOf o)).toArray = true)
    (h : wpQuietIn F n P (os.set k (skipOf o)).toArray (fun w' => ∃ m, w' = w.drewN m) (fun a' => ∀ w', (∃ m, w' = w.drewN m) → wpOpIn (F.inRound l) n P os.toArray Q k (fun a w => Q .normal a w) a' w') (os.set k (skipOf o)) a) : (Code.region id os.toArray true).wpIn (F.inRound l) n P Q a w := by
  simp only [Region.lexB, Bool.and_eq_true] at hB
  have hlt : k < os.length := by omega
  refine wpIn_region_any hm (any_of_quiet_last (F := F) (C := fun w' => ∃ m, w' = w.drewN m) (k := k) (o := o) (ops' := (os.set k (skipOf o)).toArray) hnd hb (by simpa using hk) (by simpa using ho) hl (by simp) (fun i hi => ?_) ?_ hdst _ _ _ _ (by simp) (by simp [Array.getD, hlt]) ⟨1, rfl⟩ ?_)
  · simp [List.getElem?_set, Ne.symm hi]
  · simp [List.getElem?_set, hlt]
  · have := wpAnyQIn_lex (F := F) (n := n) (C := fun w' => ∃ m, w' = w.drewN m) (md := .any) hB.1 (os.set k (skipOf o)) 0 (Array.replicate os.toArray.size false) a (by simp) (by simpa using hB.2) h
    simpa using this
end
end Go.Proofs.YtkjhamcmhijhgaaGreat.Round
