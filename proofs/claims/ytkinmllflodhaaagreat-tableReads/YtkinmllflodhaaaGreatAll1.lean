/- Joined out of the texts DigPlain, DigParse, Frame, DigList, Mem, Cells, in that order. -/
import Derived.WalkKit
import Derived.Test.YtkinmllflodhaaaGreatRows
import Derived.Handy
import Derived.ProofKit
import Derived.OpenShut
import Derived.ShutString
import Derived.ChangeOld
import Derived.Below
import Derived.Deep.Draws
import Derived.Laws.NewBlocks
import Derived.Laws.AppendOwnNone
/- Plain mathematics of numbers as bytes: what a row of digits is worth, the first place at which a number's text breaks off, and a number's text. It imports nothing of the program. -/
namespace Go.Proofs.YtkinmllflodhaaaGreat.Dig

/-- Is c a digit? -/
def dgt (c : Int) : Bool := decide (48 ≤ c ∧ c ≤ 57)
/-- What m digits from a on are worth. -/
def val (z : Nat → Int) (a : Nat) : Nat → Int
  | 0 => 0
  | m + 1 => 10 * val z a m + (z (a + m) - 48)
/-- Are m digits from a on a number's text? -/
def okm (z : Nat → Int) (a m : Nat) : Bool := decide (1 ≤ m ∧ m ≤ 10 ∧ ¬ (1 < m ∧ z a = 48) ∧ val z a m ≤ 2147483647)

/-- The number from a on, m of whose digits have been gone over; f is fuel. -/
def scan (z : Nat → Int) (len a : Nat) : Nat → Nat → Int × Int × Bool
  | 0, m => if m = 0 then (0, (a : Int), false) else (val z a m, ((a + m : Nat) : Int), true)
  | f + 1, m => if a + m < len ∧ dgt (z (a + m)) = true then (if okm z a (m + 1) = true then scan z len a f (m + 1) else (0, ((a + m : Nat) : Int), false))
      else if m = 0 then (0, (a : Int), false) else (val z a m, ((a + m : Nat) : Int), true)
def parse (z : Nat → Int) (len : Nat) (at_ : Int) : Int × Int × Bool :=
  if at_ < 0 ∨ (len : Int) < at_ then (0, 0, false) else scan z len at_.toNat (len - at_.toNat) 0

theorem dgt_iff {c : Int} : dgt c = true ↔ 48 ≤ c ∧ c ≤ 57 := by unfold dgt; simp
theorem dgt_no {c : Int} : dgt c = false ↔ ¬ (48 ≤ c ∧ c ≤ 57) := by unfold dgt; simp
theorem okm_iff {z : Nat → Int} {a m : Nat} : okm z a m = true ↔ (1 ≤ m ∧ m ≤ 10 ∧ ¬ (1 < m ∧ z a = 48) ∧ val z a m ≤ 2147483647) := by unfold okm; exact decide_eq_true_iff

theorem val_bd (z : Nat → Int) (a : Nat) : ∀ m, (∀ j, j < m → dgt (z (a + j)) = true) → 0 ≤ val z a m ∧ val z a m < 10 ^ m
  | 0, _ => by simp [val]
  | m + 1, h => by
    have ih := val_bd z a m (fun j hj => h j (by omega))
    have hd := dgt_iff.1 (h m (by omega))
    simp only [val, Int.pow_succ]
    omega
theorem val_ge (z : Nat → Int) (a : Nat) : ∀ m, 49 ≤ z a → (∀ j, j < m + 1 → dgt (z (a + j)) = true) → 10 ^ m ≤ val z a (m + 1)
  | 0, h0, _ => by simp [val]; omega
  | m + 1, h0, h => by
    have ih := val_ge z a m h0 (fun j hj => h j (by omega))
    have hd := dgt_iff.1 (h (m + 1) (by omega))
    rw [val, Int.pow_succ]
    omega
theorem pow_le_of {n m : Nat} (h : n ≤ m) : (10 : Int) ^ n ≤ 10 ^ m := by
  have := Nat.pow_le_pow_right (n := 10) (by omega) h
  exact_mod_cast this
/-- What the program asks of one digit more is what makes one digit more a number's text. -/
theorem ok_step (z : Nat → Int) (a m : Nat) (hd : ∀ j, j < m + 1 → dgt (z (a + j)) = true) (hm : m = 0 ∨ okm z a m = true) :
    okm z a (m + 1) = true ↔ ¬ ((0 < m ∧ val z a m = 0) ∨ (2147483647 - (z (a + m) - 48)) / 10 < val z a m) := by
  have hdm := dgt_iff.1 (hd m (by omega))
  have bd := val_bd z a m (fun j hj => hd j (by omega))
  rw [okm_iff]
  rcases hm with rfl | hm
  · simp only [val]
    simp
    omega
  · rw [okm_iff] at hm
    obtain ⟨h1, h2, h3, h4⟩ := hm
    obtain ⟨k, rfl⟩ : ∃ k, m = k + 1 := ⟨m - 1, by omega⟩
    have hd0 := dgt_iff.1 (hd 0 (by omega))
    simp only [Nat.add_zero] at hd0
    by_cases h48 : z a = 48
    · have hk : k = 0 := by omega
      subst hk
      simp [val, h48]
    · have g := val_ge z a k (by omega) (fun j hj => hd j (by omega))
      have p1 : (1 : Int) ≤ 10 ^ k := pow_le_of (Nat.zero_le k)
      have g2 := val_ge z a (k + 1) (by omega) (fun j hj => hd j (by omega))
      simp only [val] at g g2 h4 ⊢
      constructor
      · intro h; omega
      · intro h
        refine ⟨by omega, ?_, by omega, by omega⟩
        by_cases hk : k + 1 ≤ 9
        · omega
        · exfalso
          have := pow_le_of (show 10 ≤ k + 1 by omega)
          have e : (10 : Int) ^ 10 = 10000000000 := by decide
          omega
theorem ok_bd {z : Nat → Int} {a m : Nat} (hd : ∀ j, j < m → dgt (z (a + j)) = true) (hm : m = 0 ∨ okm z a m = true) : 0 ≤ val z a m ∧ val z a m ≤ 2147483647 := by
  refine ⟨(val_bd z a m hd).1, ?_⟩
  rcases hm with rfl | hm
  · simp [val]
  · exact (okm_iff.1 hm).2.2.2

theorem scan_hit {z : Nat → Int} {len a m : Nat} (hlt : a + m < len) (hd : dgt (z (a + m)) = true) (hok : okm z a (m + 1) = true) : scan z len a (len - a - m) m = scan z len a (len - a - (m + 1)) (m + 1) := by
  obtain ⟨f, hf⟩ : ∃ f, len - a - m = f + 1 := ⟨len - a - m - 1, by omega⟩
  have e : len - a - (m + 1) = f := by omega
  rw [hf, e, scan, if_pos ⟨hlt, hd⟩, if_pos hok]
theorem scan_bad {z : Nat → Int} {len a m : Nat} (hlt : a + m < len) (hd : dgt (z (a + m)) = true) (hok : ¬ okm z a (m + 1) = true) : scan z len a (len - a - m) m = (0, ((a + m : Nat) : Int), false) := by
  obtain ⟨f, hf⟩ : ∃ f, len - a - m = f + 1 := ⟨len - a - m - 1, by omega⟩
  rw [hf, scan, if_pos ⟨hlt, hd⟩, if_neg hok]
theorem scan_end {z : Nat → Int} {len a m : Nat} (h : ¬ (a + m < len ∧ dgt (z (a + m)) = true)) : scan z len a (len - a - m) m = if m = 0 then (0, (a : Int), false) else (val z a m, ((a + m : Nat) : Int), true) := by
  cases hf : len - a - m with
  | zero => rw [scan]
  | succ f => rw [scan, if_neg h]
theorem parse_in {z : Nat → Int} {len a : Nat} (h : a ≤ len) : parse z len (a : Int) = scan z len a (len - a - 0) 0 := by
  unfold parse; rw [if_neg (by omega)]; simp
theorem parse_out {z : Nat → Int} {len : Nat} {at_ : Int} (h : at_ < 0 ∨ (len : Int) < at_) : parse z len at_ = (0, 0, false) := by
  unfold parse; rw [if_pos h]

/-! A number's text. -/
def txtF : Nat → Nat → List UInt8
  | 0, _ => []
  | f + 1, n => if n ≤ 9 then [UInt8.ofNat (48 + n)] else txtF f (n / 10) ++ [UInt8.ofNat (48 + n % 10)]
def txt (n : Nat) : List UInt8 := txtF 10 n
theorem txtF_fuel : ∀ (f g n : Nat), n < 10 ^ f → f ≤ g → 1 ≤ f → txtF g n = txtF f n
  | 0, _, _, _, _, h => by omega
  | 1, g + 1, n, hn, _, _ => by have : n ≤ 9 := by omega
                                simp [txtF, this]
  | f + 2, g + 1, n, hn, hg, _ => by
    rw [txtF, txtF]
    split
    · rfl
    · rw [txtF_fuel (f + 1) g (n / 10) (by rw [Nat.pow_succ] at hn; omega) (by omega) (by omega)]
  | _ + 1, 0, _, _, h, _ => by omega
theorem txt_small {n : Nat} (h : n ≤ 9) : txt n = [UInt8.ofNat (48 + n)] := by unfold txt; rw [txtF, if_pos h]
theorem txt_big {n : Nat} (h : 9 < n) (hm : n ≤ 2147483647) : txt n = txt (n / 10) ++ [UInt8.ofNat (48 + n % 10)] := by
  unfold txt
  rw [show txtF 10 n = if n ≤ 9 then [UInt8.ofNat (48 + n)] else txtF 9 (n / 10) ++ [UInt8.ofNat (48 + n % 10)] from rfl, if_neg (by omega), txtF_fuel 9 10 (n / 10) (by omega) (by omega) (by omega)]
theorem txtF_len : ∀ f n, (txtF f n).length ≤ f
  | 0, _ => by simp [txtF]
  | f + 1, n => by
    rw [txtF]; split
    · simp
    · have := txtF_len f (n / 10); simp; omega
theorem txt_len (n : Nat) : 1 ≤ (txt n).length ∧ (txt n).length ≤ 10 := by
  refine ⟨?_, txtF_len 10 n⟩
  show 1 ≤ (txtF 10 n).length
  rw [txtF]; split <;> simp
end Go.Proofs.YtkinmllflodhaaaGreat.Dig

/- Contracts of the program's and the document's ways to read a number: each answers what the plain function tells, and leaves the world alone. -/
namespace Go.Proofs.YtkinmllflodhaaaGreat.Dig
open Go.RowKit
set_option linter.unusedVariables false
set_option linter.unusedSimpArgs false

/-- What is read of a row of numbers of some kind: its cells. -/
def Rd (k : IntKind) (w : World) (a : Option Addr) (len : Nat) (z : Nat → Int) : Prop :=
  len ≤ 1000000000000 ∧ ∀ i, i < len → ∃ b off, a = some ⟨b, off, none⟩ ∧ w.cell? ⟨b, off + i, none⟩ = some (.int k (z i)) ∧ (Lit.int k (z i)).wf = true

theorem ret3 {k1 k2 : IntKind} {n n' t t' : Int} {b b' : Bool} (r : Int × Int × Bool) (h : r = (n', t', b')) (h1 : n = n') (h2 : t = t') (h3 : b = b') :
    Ending.returned (.tuple #[.int k1 n, .int k2 t, .bool b]) = .returned (.tuple #[.int k1 r.1, .int k2 r.2.1, .bool r.2.2]) := by subst h h1 h2 h3; rfl
theorem Rd.le {k : IntKind} {w : World} {a : Option Addr} {len : Nat} {z : Nat → Int} (h : Rd k w a len z) : len ≤ 1000000000000 := h.1
theorem Rd.u8 {w : World} {a : Option Addr} {len : Nat} {z : Nat → Int} (h : Rd .u8 w a len z) {i : Nat} (hi : i < len) :
    ∃ b off, a = some ⟨b, off, none⟩ ∧ w.cell? ⟨b, off + i, none⟩ = some (.int .u8 (z i)) ∧ 0 ≤ z i ∧ z i ≤ 255 := by
  obtain ⟨b, off, h1, h2, h3⟩ := h.2 i hi
  have := bounds_u8 h3
  exact ⟨b, off, h1, h2, by omega, by omega⟩

def PRel (z : Nat → Int) (len a0 : Nat) (n t : Value) : Prop :=
  ∃ m : Nat, a0 + m ≤ len ∧ t = .int .i64 ((a0 : Int) + m) ∧ n = .int .i64 (val z a0 m) ∧ (∀ j, j < m → dgt (z (a0 + j)) = true) ∧ (m = 0 ∨ okm z a0 m = true) ∧ Hid (parse z len (a0 : Int) = scan z len a0 (len - a0 - m) m)

theorem val_ten {z : Nat → Int} {s k : Nat} (hd : ∀ j, j < k → dgt (z (s + j)) = true) (hk : k ≤ 10) : 0 ≤ val z s k ∧ val z s k ≤ 10000000000 := by
  have h := val_bd z s k hd
  have := pow_le_of hk
  have e : (10 : Int) ^ 10 = 10000000000 := by decide
  omega
theorem ret1 {k : IntKind} {n n' : Int} (h : n = n') : Ending.returned (.int k n) = .returned (.int k n') := by rw [h]
/-- What the document's Value tells of a row of digits. -/
def valS (z : Nat → Int) (s len : Nat) : Int := if okm z s len = true then val z s len else -1
theorem Rd.sub {w : World} {b off len : Nat} {z : Nat → Int} {k : IntKind} (h : Rd k w (some ⟨b, off, none⟩) len z) (s l : Nat) (hl : s + l ≤ len) : Rd k w (some ⟨b, off + s, none⟩) l (fun i => z (s + i)) := by
  refine ⟨by have := h.1; omega, fun i hi => ?_⟩
  obtain ⟨b', off', e, hc, hw⟩ := h.2 (s + i) (by omega)
  simp only [Option.some.injEq, Addr.mk.injEq] at e
  obtain ⟨rfl, rfl, _⟩ := e
  exact ⟨b, off + s, rfl, by rw [Nat.add_assoc]; exact hc, hw⟩
theorem valS_neg {z : Nat → Int} {s l : Nat} (h : ¬ okm z s l = true) : valS z s l < 0 := by rw [valS, if_neg h]; omega
theorem valS_pos {z : Nat → Int} {s l : Nat} (h : okm z s l = true) : valS z s l = val z s l := by rw [valS, if_pos h]
def EndRel (z : Nat → Int) (len a0 : Nat) (t : Value) : Prop := ∃ m : Nat, a0 + m ≤ len ∧ t = .int .i64 ((a0 : Int) + m) ∧ (∀ j, j < m → dgt (z (a0 + j)) = true)
def KRel (z : Nat → Int) (len a0 e : Nat) (t : Value) : Prop := ∃ m : Nat, m ≤ e ∧ t = .int .i64 ((a0 : Int) + m + 1) ∧ (m = 0 ∨ okm z a0 m = true) ∧ Hid (parse z len (a0 : Int) = scan z len a0 (len - a0 - m) m)

end Go.Proofs.YtkinmllflodhaaaGreat.Dig

/- What each statement's frame asks of an argument that came in: a row of numbers is nil, or leads to cells; and how a walk reads it. -/
namespace Go.Proofs.YtkinmllflodhaaaGreat.Frame
open Go.ChangeShapes Go.WideShapes Go.ChangeAt Go.RowKit
open Go.ChangeMaps (open_string shut_string)
set_option linter.unusedVariables false

theorem own : ownKnob Tryz.prog.godebug = none := by kernel_rfl
theorem laidOut : laidOutB Tryz.prog = true := by kernel_rfl

/-- A slice of integers that came in: nil, or a row of 'cap' cells, of which the first 'len' are its elements. -/
def IsRow (k : IntKind) (w : World) (a : Option Addr) (len cap : Nat) (zs : List Int) : Prop :=
  (a = none ∧ len = 0 ∧ cap = 0 ∧ zs = []) ∨
  ∃ x, a = some x ∧ len ≤ cap ∧ cap ≤ maxLen ∧ zs.length = cap ∧ (∀ i, i < zs.length → w.cell? (x.add i) = some (.int k (zs.getD i 0))) ∧ ∀ n ∈ zs, (Lit.int k n).wf = true
theorem IsRow.cap {k : IntKind} {w : World} {a : Option Addr} {len cap : Nat} {zs : List Int} (h : IsRow k w a len cap zs) : len ≤ cap ∧ cap ≤ 9223372036854775807 := by
  rcases h with ⟨_, h1, h2, _⟩ | ⟨x, _, h1, h2, _⟩
  · omega
  · unfold maxLen at h2; omega
theorem IsRow.rd {k : IntKind} {w : World} {a : Option Addr} {len cap : Nat} {zs : List Int} (h : IsRow k w a len cap zs) (hl : len ≤ 1000000000000) : Dig.Rd k w a len (fun i => zs.getD i 0) := by
  refine ⟨hl, fun i hi => ?_⟩
  rcases h with ⟨_, h1, _⟩ | ⟨x, rfl, h1, h2, h3, h4, h5⟩
  · omega
  · have hc := h4 i (by omega)
    obtain ⟨b, off, spot⟩ := x
    have hs : spot = none := by simpa [Addr.add] using World.cell?_spot (h4 0 (by omega))
    subst hs
    refine ⟨b, off, rfl, ?_, ?_⟩
    · by_cases e : i = 0
      · subst e; simpa [Addr.add] using hc
      · simpa [Addr.add, e] using hc
    · show (Lit.int k (zs.getD i 0)).wf = true
      rw [List.getD_eq_getElem?_getD, List.getElem?_eq_getElem (by omega)]
      exact h5 _ (List.getElem_mem _)
/-- The elements alone, as a list. -/
theorem IsRow.list {k : IntKind} {w : World} {a : Option Addr} {len cap : Nat} {zs : List Int} (h : IsRow k w a len cap zs) (hl : len ≤ 1000000000000) :
    ∃ l : List Int, len = l.length ∧ Dig.Rd k w a l.length (fun i => l.getD i 0) ∧ (∀ n ∈ l, (Lit.int k n).wf = true) ∧ (a = none → l.length = 0 ∧ cap = 0) := by
  have hr := h.rd hl
  rcases h with ⟨rfl, rfl, rfl, rfl⟩ | ⟨x, rfl, h1, h2, h3, h4, h5⟩
  · exact ⟨[], rfl, ⟨by simp, fun i hi => by simp at hi⟩, by simp, fun _ => ⟨rfl, rfl⟩⟩
  · have e : (zs.take len).length = len := by rw [List.length_take]; omega
    refine ⟨zs.take len, e.symm, ?_, fun n hn => h5 n (List.mem_of_mem_take hn), by simp⟩
    rw [e]
    refine ⟨hl, fun i hi => ?_⟩
    obtain ⟨b, off, q1, q2, q3⟩ := hr.2 i hi
    have e2 : (zs.take len).getD i 0 = zs.getD i 0 := by
      rw [List.getD_eq_getElem?_getD, List.getD_eq_getElem?_getD, List.getElem?_take, if_pos hi]
    exact ⟨b, off, q1, by show _ = some (Value.int k ((zs.take len).getD i 0)); rw [e2]; exact q2, by show (Lit.int k ((zs.take len).getD i 0)).wf = true; rw [e2]; exact q3⟩
end Go.Proofs.YtkinmllflodhaaaGreat.Frame

/- Contracts of the program's and the document's ways to read a list of numbers, and of the document's Same. -/
namespace Go.Proofs.YtkinmllflodhaaaGreat.Dig
open Go.RowKit
set_option linter.unusedVariables false
set_option linter.unusedSimpArgs false

/-- The numbers from place a on, each with a blank ahead, behind those of l; f is fuel. -/
def lscan (z : Nat → Int) (len : Nat) : Nat → Nat → List Int → List Int × Int × Bool
  | 0, a, l => (l, (a : Int), true)
  | f + 1, a, l => if a < len ∧ z a = 32 then
      (if (parse z len ((a : Int) + 1)).2.2 = true then lscan z len f (parse z len ((a : Int) + 1)).2.1.toNat (l ++ [(parse z len ((a : Int) + 1)).1]) else ([], (parse z len ((a : Int) + 1)).2.1, false))
      else (l, (a : Int), true)
def lst (z : Nat → Int) (len : Nat) (at_ : Int) : List Int × Int × Bool :=
  if at_ < 0 ∨ (len : Int) < at_ then ([], 0, false) else lscan z len (len - at_.toNat) at_.toNat []
theorem lst_in {z : Nat → Int} {len a : Nat} (h : a ≤ len) : lst z len (a : Int) = lscan z len (len - a) a [] := by
  unfold lst; rw [if_neg (by omega)]; simp
theorem lst_out {z : Nat → Int} {len : Nat} {at_ : Int} (h : at_ < 0 ∨ (len : Int) < at_) : lst z len at_ = ([], 0, false) := by
  unfold lst; rw [if_pos h]
theorem lscan_stop {z : Nat → Int} {len f a : Nat} {l : List Int} (hf : len - a ≤ f) (h : ¬ (a < len ∧ z a = 32)) : lscan z len f a l = (l, (a : Int), true) := by
  cases f with
  | zero => rfl
  | succ f => rw [lscan, if_neg h]
theorem lscan_bad {z : Nat → Int} {len f a : Nat} {l : List Int} {n t : Int} (hf : len - a ≤ f) (h : a < len ∧ z a = 32) (hp : parse z len ((a : Int) + 1) = (n, t, false)) : lscan z len f a l = ([], t, false) := by
  obtain ⟨g, rfl⟩ : ∃ g, f = g + 1 := ⟨f - 1, by omega⟩
  rw [lscan, if_pos h, hp]; simp
theorem lscan_go {z : Nat → Int} {len f a : Nat} {l : List Int} {n : Int} {t : Nat} (hf : len - a ≤ f) (h : a < len ∧ z a = 32) (hp : parse z len ((a : Int) + 1) = (n, (t : Int), true)) :
    lscan z len f a l = lscan z len (f - 1) t (l ++ [n]) := by
  obtain ⟨g, rfl⟩ : ∃ g, f = g + 1 := ⟨f - 1, by omega⟩
  rw [lscan, if_pos h, hp]; simp

/-- What a way to read a number ends with. -/
theorem scan_spec (z : Nat → Int) (len a : Nat) : ∀ f m, a + m ≤ len → len - a - m ≤ f → (∀ j, j < m → dgt (z (a + j)) = true) → (m = 0 ∨ okm z a m = true) →
    (∃ k, m ≤ k ∧ 1 ≤ k ∧ a + k ≤ len ∧ okm z a k = true ∧ (∀ j, j < k → dgt (z (a + j)) = true) ∧ ¬ (a + k < len ∧ dgt (z (a + k)) = true) ∧ scan z len a f m = (val z a k, ((a + k : Nat) : Int), true)) ∨
    (∃ k, m ≤ k ∧ a + k ≤ len ∧ (k = 0 ∨ okm z a k = true) ∧ (∀ j, j < k → dgt (z (a + j)) = true) ∧ ((k = 0 ∧ ¬ (a < len ∧ dgt (z a) = true)) ∨ (a + k < len ∧ dgt (z (a + k)) = true ∧ ¬ okm z a (k + 1) = true)) ∧ scan z len a f m = (0, ((a + k : Nat) : Int), false))
  | 0, m, hm, hf, hd, hok => by
    by_cases h0 : m = 0
    · right
      subst h0
      exact ⟨0, by omega, hm, .inl rfl, hd, .inl ⟨rfl, by omega⟩, by rw [scan]; simp⟩
    · left
      exact ⟨m, by omega, by omega, hm, by rcases hok with h | h; exact absurd h h0; exact h, hd, by omega, by rw [scan, if_neg h0]⟩
  | f + 1, m, hm, hf, hd, hok => by
    by_cases hg : a + m < len ∧ dgt (z (a + m)) = true
    · by_cases ho : okm z a (m + 1) = true
      · have hd' : ∀ j, j < m + 1 → dgt (z (a + j)) = true := fun j hj => by
          by_cases e : j = m
          · rw [e]; exact hg.2
          · exact hd j (by omega)
        have hs : scan z len a (f + 1) m = scan z len a f (m + 1) := by rw [scan, if_pos hg, if_pos ho]
        rw [hs]
        rcases scan_spec z len a f (m + 1) (by omega) (by omega) hd' (.inr ho) with ⟨k, h1, h2⟩ | ⟨k, h1, h2⟩
        · exact .inl ⟨k, by omega, h2⟩
        · exact .inr ⟨k, by omega, h2⟩
      · right
        exact ⟨m, by omega, hm, hok, hd, .inr ⟨hg.1, hg.2, ho⟩, by rw [scan, if_pos hg, if_neg ho]⟩
    · by_cases h0 : m = 0
      · right
        subst h0
        exact ⟨0, by omega, hm, .inl rfl, hd, .inl ⟨rfl, by simpa using hg⟩, by rw [scan, if_neg hg]; simp⟩
      · left
        exact ⟨m, by omega, by omega, hm, by rcases hok with h | h; exact absurd h h0; exact h, hd, hg, by rw [scan, if_neg hg, if_neg h0]⟩
theorem parse_spec (z : Nat → Int) (len a : Nat) (h : a ≤ len) :
    (∃ k, 1 ≤ k ∧ a + k ≤ len ∧ okm z a k = true ∧ (∀ j, j < k → dgt (z (a + j)) = true) ∧ ¬ (a + k < len ∧ dgt (z (a + k)) = true) ∧ parse z len (a : Int) = (val z a k, ((a + k : Nat) : Int), true)) ∨
    (∃ k, a + k ≤ len ∧ (k = 0 ∨ okm z a k = true) ∧ (∀ j, j < k → dgt (z (a + j)) = true) ∧ ((k = 0 ∧ ¬ (a < len ∧ dgt (z a) = true)) ∨ (a + k < len ∧ dgt (z (a + k)) = true ∧ ¬ okm z a (k + 1) = true)) ∧ parse z len (a : Int) = (0, ((a + k : Nat) : Int), false)) := by
  rw [parse_in h]
  rcases scan_spec z len a (len - a - 0) 0 (by omega) (by omega) (by omega) (.inl rfl) with ⟨k, _, h2⟩ | ⟨k, _, h2⟩
  · exact .inl ⟨k, h2⟩
  · exact .inr ⟨k, h2⟩
/-- Read a number from a place on: either a number and the place behind it, or the first wrong place. -/
theorem parse_two (z : Nat → Int) (len a : Nat) (h : a ≤ len) :
    (∃ (n : Int) (t : Nat), a < t ∧ t ≤ len ∧ 0 ≤ n ∧ n ≤ 2147483647 ∧ parse z len (a : Int) = (n, (t : Int), true)) ∨ (∃ t : Nat, a ≤ t ∧ t ≤ len ∧ parse z len (a : Int) = (0, (t : Int), false)) := by
  rcases parse_spec z len a h with ⟨k, h1, h2, h3, h4, h5, h6⟩ | ⟨k, h2, h3, h4, h5, h6⟩
  · have := ok_bd h4 (.inr h3)
    exact .inl ⟨_, a + k, by omega, h2, this.1, this.2, h6⟩
  · exact .inr ⟨a + k, by omega, h2, h6⟩

theorem lt_of_cell {w : World} {p : Addr} {v : Value} (h : w.cell? p = some v) : p.block < w.heap.size := by
  rcases Nat.lt_or_ge p.block w.heap.size with g | g
  · exact g
  · simp [World.cell?, Array.getElem?_eq_none g] at h
theorem Rd.keep {k : IntKind} {w w' : World} {a : Option Addr} {len : Nat} {z : Nat → Int} (h : Rd k w a len z) (hb : Below w.heap.size w w') : Rd k w' a len z := by
  refine ⟨h.1, fun i hi => ?_⟩
  obtain ⟨b, off, e, hc, hw⟩ := h.2 i hi
  exact ⟨b, off, e, by rw [hb.cell (lt_of_cell hc)]; exact hc, hw⟩
/-- What a row of the call's own holds, read. -/
theorem Rd.own {w : World} {base : Nat} {v : Value} {l : List Int} (h : w.ownsRow base 3 1 v l.length (l.map (Value.int .i64))) (hl : l.length ≤ 1000000000000) (hw : ∀ n ∈ l, (Lit.int .i64 n).wf = true) :
    ∃ a cap, v = .slice a l.length cap ∧ l.length ≤ cap ∧ Rd .i64 w a l.length (fun i => l.getD i 0) := by
  have h' := h
  obtain ⟨h1, h2⟩ := h
  rcases h2 with ⟨hv, h0⟩ | ⟨g, cap, cur, hv, hg, hh, hc1, hc2, hc3, hc4⟩
  · have : l = [] := by cases l with
      | nil => rfl
      | cons x l => simp at h0
    subst this
    exact ⟨none, 0, hv, by simp, by simp, fun i hi => by simp at hi⟩
  · refine ⟨_, cap, hv, hc1, hl, fun i hi => ⟨g, 0, rfl, ?_, ?_⟩⟩
    · subst hv
      rw [Nat.zero_add, h'.cellAt i (by omega)]
      simp [List.getD_eq_getElem?_getD, List.getElem?_eq_getElem hi]
    · simp only [List.getD_eq_getElem?_getD, List.getElem?_eq_getElem hi, Option.getD_some]
      exact hw _ (List.getElem_mem hi)

theorem one_new (w : World) (x : Value) (t : TypeId) : ∀ (j : Nat) (u : Value), [x][j]? = some u → (w.alloc (.cells #[x] t)).cell? ((⟨w.heap.size, 0, none⟩ : Addr).add j) = some u := by
  intro j u hj
  match j, hj with
  | 0, hj => simp at hj; subst hj; simp [Addr.add]

theorem wf_of_i64 {n : Int} (h0 : 0 ≤ n) (h1 : n ≤ 2147483647) : (Lit.int .i64 n).wf = true := WalkArith.wf_i64 (by omega)

def LRel (z : Nat → Int) (len a0 base : Nat) (w : World) (v a : Value) (wr : World) : Prop :=
  ∃ (at_ : Nat) (l : List Int) (f : Nat), at_ ≤ len ∧ a = .int .i64 (at_ : Int) ∧ wr.ownsRow base 3 1 v l.length (l.map (Value.int .i64)) ∧ Below base w wr ∧ len - at_ ≤ f ∧ l.length ≤ at_ ∧ (∀ n ∈ l, 0 ≤ n ∧ n ≤ 2147483647) ∧ Hid (lst z len (a0 : Int) = lscan z len f at_ l)
theorem LRel.push {z : Nat → Int} {len a0 base at_ f : Nat} {w w1 : World} {v1 : Value} {l : List Int} {n : Int} {t : Nat} (hlt : at_ < len) (h32 : z at_ = 32) (hp : parse z len ((at_ : Int) + 1) = (n, (t : Int), true)) (h1 : at_ < t) (h2 : t ≤ len) (hn : 0 ≤ n ∧ n ≤ 2147483647)
    (hf : len - at_ ≤ f) (hll : l.length ≤ at_) (hl : ∀ n ∈ l, 0 ≤ n ∧ n ≤ 2147483647) (hs : Hid (lst z len (a0 : Int) = lscan z len f at_ l)) (hown : w1.ownsRow base 3 1 v1 (l.length + 1) (l.map (Value.int .i64) ++ [.int .i64 n])) (hb : Below base w w1) :
    LRel z len a0 base w v1 (.int .i64 (t : Int)) w1 := by
  refine ⟨t, l ++ [n], f - 1, h2, rfl, ?_, hb, by omega, by simp; omega, ?_, hs.out.trans (lscan_go hf ⟨hlt, h32⟩ hp)⟩
  · rw [List.length_append, List.map_append]; exact hown
  · intro m hm
    rcases List.mem_append.1 hm with q | q
    · exact hl m q
    · simp at q; subst q; exact hn

theorem Tryz.info3 : (Tryz.prog.info? 3).map (fun i => (i.zero, i.size, i.bytes)) = some (some (.int .i64 0), 1, 8) := by kernel_rfl
/-- The document's Same of two rows that hold the same. -/
theorem same_yes (a b : Option Addr) (n c d : Nat) (x : Nat → Int) (w : World) (ha : Rd .i64 w a n x) (hb : Rd .i64 w b n x) :
    Calls Tryz.prog 18 #[.slice a n c, .slice b n d] w fun e w' => e = .returned (.bool true) ∧ Below w.heap.size w w' := by
  have hn := ha.le
  have g0 : ((n : Int) != n) = false := by simp
  go_enter Tryz.func18, Tryz.ntmps18
  go_wp2
  go_loopw [5] (fun i wr => ∃ k : Nat, k ≤ n ∧ i = .int .i64 (k : Int) ∧ Below w.heap.size w wr) (fun i _ => n - (intOf i).toNat)
  case atStart => exact ⟨0, by omega, rfl, Below.refl _ _⟩
  case round =>
    obtain ⟨k, hk, rfl, hbel⟩ := hrel
    by_cases hlt : k < n
    · obtain ⟨b1, o1, rfl, hc1, hw1⟩ := (ha.keep hbel).2 k hlt
      obtain ⟨b2, o2, rfl, hc2, hw2⟩ := (hb.keep hbel).2 k hlt
      go_wp2
      go_region
      all_goals
        go_wp2
        go_roundw
        case rel => exact ⟨k + 1, by omega, by go_num, by first | exact hbel | exact hbel.drew | (repeat (first | exact hbel | apply Below.drew))⟩
        case measure => simp [intOf]; omega
    · go_wp2
      go_ret
      exact ⟨rfl, hbel⟩
end Go.Proofs.YtkinmllflodhaaaGreat.Dig

/- Objects that live in a block of their own: what a block holds, and what a call leaves as it was. -/
namespace Go.Proofs.YtkinmllflodhaaaGreat.Mem
open Go.RowKit Go.Proofs.YtkinmllflodhaaaGreat.Dig
set_option linter.unusedVariables false
set_option linter.unusedSimpArgs false

theorem hide {p : Prop} (h : p) : Hid p := h
/-- Block b holds just these cells, none of them frozen. -/
def Is (w : World) (b : Nat) (cs : Array Value) : Prop := ∃ T, w.heap[b]? = some (.cells cs T)

theorem Is.lt {w : World} {b : Nat} {cs : Array Value} (h : Is w b cs) : b < w.heap.size := by
  obtain ⟨T, h⟩ := h
  rcases Nat.lt_or_ge b w.heap.size with q | q
  · exact q
  · rw [Array.getElem?_eq_none q] at h; cases h
theorem Is.cell {w : World} {b : Nat} {cs : Array Value} (h : Is w b cs) (i : Nat) {v : Value} (hv : cs[i]? = some v) : w.cell? ⟨b, i, none⟩ = some v := by
  obtain ⟨T, h⟩ := h
  simp [World.cell?, h, hv]
theorem Is.frozen {w : World} {b : Nat} {cs : Array Value} (h : Is w b cs) (i : Nat) : w.frozen? ⟨b, i, none⟩ = false := by
  obtain ⟨T, h⟩ := h
  simp [World.frozen?, h]
theorem Is.set {w : World} {b : Nat} {cs : Array Value} (h : Is w b cs) (i : Nat) (v : Value) : Is (w.setCell ⟨b, i, none⟩ v) b (cs.setIfInBounds i v) := by
  obtain ⟨T, h⟩ := h
  exact ⟨T, by simp [World.setCell, Array.getElem?_modify, h]⟩
theorem Is.other {w : World} {b : Nat} {cs : Array Value} (h : Is w b cs) {p : Addr} (hp : p.block ≠ b) (v : Value) : Is (w.setCell p v) b cs := by
  obtain ⟨T, h⟩ := h
  exact ⟨T, by rw [Below.heap_setCell _ _ _ _ (Ne.symm hp)]; exact h⟩
theorem Is.alloc {w : World} {b : Nat} {cs : Array Value} (h : Is w b cs) (o : Obj) : Is (w.alloc o) b cs := by
  have hl := h.lt
  obtain ⟨T, h⟩ := h
  exact ⟨T, by rw [Below.heap_alloc _ _ _ hl]; exact h⟩
theorem Is.made (w : World) (cs : Array Value) (T : TypeId) {b : Nat} (hb : b = w.heap.size) : Is (w.alloc (.cells cs T)) b cs := by
  subst hb
  exact ⟨T, by show (w.heap.push _)[_]? = _; simp⟩
theorem Is.drew {w : World} {b : Nat} {cs : Array Value} (h : Is w b cs) : Is w.drew b cs := h
theorem Is.drewN {w : World} {b : Nat} {cs : Array Value} (h : Is w b cs) (n : Nat) : Is (w.drewN n) b cs := h
theorem Is.eq {w : World} {b : Nat} {cs cs' : Array Value} (h : Is w b cs) (e : cs = cs') : Is w b cs' := e ▸ h

/-- From w to w': of what was there nothing has turned but in blocks of S. -/
structure Only (S : Nat → Prop) (w w' : World) : Prop where
  os : w'.os = w.os
  tape : w'.tape = w.tape
  output : w'.output = w.output
  size : w.heap.size ≤ w'.heap.size
  block : ∀ k, k < w.heap.size → ¬ S k → w'.heap[k]? = w.heap[k]?

theorem Only.refl (S : Nat → Prop) (w : World) : Only S w w := ⟨rfl, rfl, rfl, Nat.le_refl _, fun _ _ _ => rfl⟩
theorem Only.trans {S : Nat → Prop} {a b c : World} (h : Only S a b) (k : Only S b c) : Only S a c :=
  ⟨k.os.trans h.os, k.tape.trans h.tape, k.output.trans h.output, Nat.le_trans h.size k.size, fun i hi hs => (k.block i (Nat.lt_of_lt_of_le hi h.size) hs).trans (h.block i hi hs)⟩
/-- .. where the second step may turn what the first one has made. -/
theorem Only.trans' {S S' : Nat → Prop} {a b c : World} (h : Only S a b) (k : Only S' b c) (hs : ∀ i, S' i → S i ∨ a.heap.size ≤ i) : Only S a c :=
  ⟨k.os.trans h.os, k.tape.trans h.tape, k.output.trans h.output, Nat.le_trans h.size k.size, fun i hi hn => (k.block i (Nat.lt_of_lt_of_le hi h.size) (fun q => (hs i q).elim hn (fun r => by omega))).trans (h.block i hi hn)⟩
theorem Only.mono {S S' : Nat → Prop} {w w' : World} (h : Only S w w') (hs : ∀ i, S i → S' i) : Only S' w w' := ⟨h.os, h.tape, h.output, h.size, fun i hi hn => h.block i hi (fun q => hn (hs i q))⟩
theorem Only.drew {S : Nat → Prop} {a w : World} (h : Only S a w) : Only S a w.drew := ⟨h.os, h.tape, h.output, h.size, h.block⟩
theorem Only.drewN {S : Nat → Prop} {a w : World} (h : Only S a w) (n : Nat) : Only S a (w.drewN n) := ⟨h.os, h.tape, h.output, h.size, h.block⟩
theorem Only.alloc {S : Nat → Prop} {a w : World} (h : Only S a w) (o : Obj) : Only S a (w.alloc o) :=
  h.trans ⟨rfl, rfl, rfl, by simp, fun k hk _ => Below.heap_alloc _ _ _ hk⟩
theorem Only.setCell {S : Nat → Prop} {a w : World} (h : Only S a w) {p : Addr} (hp : S p.block ∨ a.heap.size ≤ p.block) (u : Value) : Only S a (w.setCell p u) :=
  h.trans' (S' := fun k => k = p.block) ⟨rfl, rfl, rfl, by simp [World.setCell], fun k hk hn => Below.heap_setCell _ _ _ _ hn⟩ (fun i e => e ▸ hp)
/-- .. where one block alone may turn. -/
theorem Only.put {b : Nat} {a w : World} (h : Only (fun k => k = b) a w) (i : Nat) (u : Value) : Only (fun k => k = b) a (w.setCell ⟨b, i, none⟩ u) := h.setCell (p := ⟨b, i, none⟩) (.inl rfl) u
theorem Only.below {S : Nat → Prop} {w w' : World} (h : Only S w w') {B : Nat} (hs : ∀ k, S k → B ≤ k) (hB : B ≤ w.heap.size) : Below B w w' :=
  ⟨h.os, h.tape, h.output, h.size, fun k hk => h.block k (Nat.lt_of_lt_of_le hk hB) (fun q => by have := hs k q; omega)⟩
theorem Only.of_below {S : Nat → Prop} {w w' : World} (h : Below w.heap.size w w') : Only S w w' := ⟨h.os, h.tape, h.output, h.size, fun k hk _ => h.block k hk⟩
theorem _root_.Go.RowKit.Below.only {B : Nat} {a w w' : World} {S : Nat → Prop} (h : Below B a w) (k : Only S w w') (hs : ∀ i, S i → B ≤ i) (hB : B ≤ w.heap.size) : Below B a w' := h.trans (k.below hs hB)
theorem Is.keep {w w' : World} {b : Nat} {cs : Array Value} (h : Is w b cs) {S : Nat → Prop} (ho : Only S w w') (hb : ¬ S b) : Is w' b cs := by
  have hl := h.lt
  obtain ⟨T, h⟩ := h
  exact ⟨T, by rw [ho.block b hl hb]; exact h⟩
theorem Is.below {w w' : World} {b : Nat} {cs : Array Value} (h : Is w b cs) (ho : Below w.heap.size w w') : Is w' b cs := h.keep (Only.of_below (S := fun _ => False) ho) (fun q => q)
theorem Only.cell {S : Nat → Prop} {w w' : World} (h : Only S w w') {p : Addr} {v : Value} (hc : w.cell? p = some v) (hp : ¬ S p.block) : w'.cell? p = some v := by
  rw [← hc]
  exact World.cell?_of_block (w := w) (h.block p.block (lt_of_cell hc) hp)
theorem _root_.Go.Proofs.YtkinmllflodhaaaGreat.Dig.Rd.only {k : IntKind} {w w' : World} {a : Option Addr} {len : Nat} {z : Nat → Int} (h : Rd k w a len z) {S : Nat → Prop} (ho : Only S w w') (hs : ∀ x, a = some x → ¬ S x.block) : Rd k w' a len z := by
  refine ⟨h.1, fun i hi => ?_⟩
  obtain ⟨b, off, e, hc, hw⟩ := h.2 i hi
  exact ⟨b, off, e, ho.cell hc (by exact hs ⟨b, off, none⟩ e), hw⟩
theorem _root_.Go.Proofs.YtkinmllflodhaaaGreat.Dig.Rd.below {k : IntKind} {B : Nat} {w w' : World} {a : Option Addr} {len : Nat} {z : Nat → Int} (h : Rd k w a len z) (ho : Below B w w') (hs : ∀ x, a = some x → x.block < B) : Rd k w' a len z := by
  refine ⟨h.1, fun i hi => ?_⟩
  obtain ⟨b, off, e, hc, hw⟩ := h.2 i hi
  exact ⟨b, off, e, by rw [ho.cell (by exact hs ⟨b, off, none⟩ e)]; exact hc, hw⟩
/-- What a call left as it was, as two rules for a walk. -/
theorem bcell {W w1 : World} (hb : Below W.heap.size W w1) : (∀ b o, b < W.heap.size → w1.cell? ⟨b, o, none⟩ = W.cell? ⟨b, o, none⟩) ∧ (∀ b o, b < W.heap.size → w1.frozen? ⟨b, o, none⟩ = W.frozen? ⟨b, o, none⟩) :=
  ⟨fun b o h => hb.cell (p := ⟨b, o, none⟩) h, fun b o h => hb.frozen (p := ⟨b, o, none⟩) h⟩
/-- A block of four cells, cell by cell. -/
theorem Is.four {w : World} {b : Nat} {v0 v1 v2 v3 : Value} (h : Is w b #[v0, v1, v2, v3]) :
    (w.cell? ⟨b, 0, none⟩ = some v0 ∧ w.cell? ⟨b, 1, none⟩ = some v1 ∧ w.cell? ⟨b, 2, none⟩ = some v2 ∧ w.cell? ⟨b, 3, none⟩ = some v3) ∧
    w.frozen? ⟨b, 0, none⟩ = false ∧ w.frozen? ⟨b, 1, none⟩ = false ∧ w.frozen? ⟨b, 2, none⟩ = false ∧ w.frozen? ⟨b, 3, none⟩ = false :=
  ⟨⟨h.cell 0 rfl, h.cell 1 rfl, h.cell 2 rfl, h.cell 3 rfl⟩, h.frozen 0, h.frozen 1, h.frozen 2, h.frozen 3⟩
/-- Two blocks that were laid ahead of a call, behind it. -/
theorem two_boxes {w w' : World} {c d : Array Value} {T U : TypeId} (hb : Below ((w.alloc (.cells c T)).alloc (.cells d U)).heap.size ((w.alloc (.cells c T)).alloc (.cells d U)) w') :
    Is w' w.heap.size c ∧ Is w' (w.heap.size + 1) d ∧ Below w.heap.size w w' ∧ w.heap.size + 1 < w'.heap.size := by
  have hs := hb.size
  simp at hs
  exact ⟨((Is.made w c T rfl).alloc _).below hb, (Is.made _ d U (by simp)).below hb, (((Below.refl _ _).alloc (Nat.le_refl _) _).alloc (by simp) _).trans (hb.mono (by simp; omega)), by omega⟩
/-- A row that is read stays while other blocks are written. -/
theorem _root_.Go.Proofs.YtkinmllflodhaaaGreat.Dig.Rd.put {k : IntKind} {w : World} {a : Option Addr} {len : Nat} {z : Nat → Int} (h : Rd k w a len z) {p : Addr} (hp : ∀ x, a = some x → x.block ≠ p.block) (v : Value) : Rd k (w.setCell p v) a len z := by
  refine ⟨h.1, fun i hi => ?_⟩
  obtain ⟨b, off, e, hc, hw⟩ := h.2 i hi
  exact ⟨b, off, e, by rw [World.cell?_of_block (w := w) (w' := w.setCell p v) (a := ⟨b, off + i, none⟩) (Below.heap_setCell _ _ _ _ (hp ⟨b, off, none⟩ e))]; exact hc, hw⟩
/-- .. an empty row asks nothing of its address. -/
theorem _root_.Go.Proofs.YtkinmllflodhaaaGreat.Dig.Rd.only' {k : IntKind} {w w' : World} {a : Option Addr} {len : Nat} {z : Nat → Int} (h : Rd k w a len z) {S : Nat → Prop} (ho : Only S w w') (hs : 0 < len → ∀ x, a = some x → ¬ S x.block) : Rd k w' a len z := by
  refine ⟨h.1, fun i hi => ?_⟩
  obtain ⟨b, off, e, hc, hw⟩ := h.2 i hi
  exact ⟨b, off, e, ho.cell hc (by exact hs (by omega) ⟨b, off, none⟩ e), hw⟩
theorem _root_.Go.Proofs.YtkinmllflodhaaaGreat.Dig.Rd.lt {k : IntKind} {w : World} {a : Option Addr} {len : Nat} {z : Nat → Int} (h : Rd k w a len z) (hl : 0 < len) : ∀ x, a = some x → x.block < w.heap.size := by
  obtain ⟨b, off, rfl, hc, _⟩ := h.2 0 hl
  rintro x hx
  obtain rfl := Option.some.inj hx
  exact lt_of_cell hc
end Go.Proofs.YtkinmllflodhaaaGreat.Mem

/- Rows whose elements are so many cells each: how they are read, what keeps them, and what an append leaves. -/
namespace Go.Proofs.YtkinmllflodhaaaGreat.Mem
open Go.RowKit Go.Proofs.YtkinmllflodhaaaGreat.Dig
set_option linter.unusedVariables false
set_option linter.unusedSimpArgs false

theorem addr_add (b off n : Nat) : (⟨b, off, none⟩ : Addr).add n = ⟨b, off + n, none⟩ := by unfold Addr.add; split <;> simp_all
/-- v is a row of elements of n cells each, whose cells are cs; it lies in blocks of F. -/
def RowAt (F : Nat → Prop) (w : World) (n : Nat) (v : Value) (cs : List (List Value)) : Prop :=
  ∃ a cap, v = .slice a cs.length cap ∧ cs.length ≤ cap ∧ cap ≤ maxLen ∧ (a = none → cap = 0) ∧ (∀ c ∈ cs, c.length = n) ∧
    ∀ i c, cs[i]? = some c → ∃ b off, a = some ⟨b, off, none⟩ ∧ F b ∧ ∀ j u, c[j]? = some u → w.cell? ⟨b, off + (i * n + j), none⟩ = some u

theorem RowAt.nil (F : Nat → Prop) (w : World) (n : Nat) : RowAt F w n (.slice none 0 0) [] := ⟨none, 0, rfl, by simp, by unfold maxLen; omega, fun _ => rfl, by simp, by simp⟩
theorem RowAt.mono {F F' : Nat → Prop} {w : World} {n : Nat} {v : Value} {cs : List (List Value)} (h : RowAt F w n v cs) (hf : ∀ b, F b → F' b) : RowAt F' w n v cs := by
  obtain ⟨a, cap, h1, h2, h3, h4, h5, h6⟩ := h
  exact ⟨a, cap, h1, h2, h3, h4, h5, fun i c hc => let ⟨b, off, g1, g2, g3⟩ := h6 i c hc; ⟨b, off, g1, hf b g2, g3⟩⟩
theorem RowAt.only {F S : Nat → Prop} {w w' : World} {n : Nat} {v : Value} {cs : List (List Value)} (h : RowAt F w n v cs) (ho : Only S w w') (hs : ∀ b, F b → ¬ S b) : RowAt F w' n v cs := by
  obtain ⟨a, cap, h1, h2, h3, h4, h5, h6⟩ := h
  exact ⟨a, cap, h1, h2, h3, h4, h5, fun i c hc => let ⟨b, off, g1, g2, g3⟩ := h6 i c hc; ⟨b, off, g1, g2, fun j u hu => ho.cell (g3 j u hu) (hs b g2)⟩⟩
theorem RowAt.keep {F : Nat → Prop} {w w' : World} {n : Nat} {v : Value} {cs : List (List Value)} (h : RowAt F w n v cs) (ho : Below w.heap.size w w') : RowAt F w' n v cs :=
  h.only (Only.of_below (S := fun _ => False) ho) (fun _ _ q => q)
/-- Its blocks are there. -/
theorem RowAt.lt {F : Nat → Prop} {w : World} {n : Nat} {v : Value} {cs : List (List Value)} (h : RowAt F w n v cs) (hn : 0 < n) : RowAt (fun b => F b ∧ b < w.heap.size) w n v cs := by
  obtain ⟨a, cap, h1, h2, h3, h4, h5, h6⟩ := h
  refine ⟨a, cap, h1, h2, h3, h4, h5, fun i c hc => ?_⟩
  obtain ⟨b, off, g1, g2, g3⟩ := h6 i c hc
  have hl : c.length = n := h5 c (List.mem_of_getElem? hc)
  have hc0 := g3 0 (c[0]'(by omega)) (List.getElem?_eq_getElem (by omega))
  exact ⟨b, off, g1, ⟨g2, lt_of_cell hc0⟩, g3⟩
/-- Element i. -/
theorem RowAt.at {F : Nat → Prop} {w : World} {n : Nat} {a : Option Addr} {len cap : Nat} {cs : List (List Value)} (h : RowAt F w n (.slice a len cap) cs) {i : Nat} (hi : i < cs.length) :
    len = cs.length ∧ ∃ b off, a = some ⟨b, off, none⟩ ∧ F b ∧ ∀ j u, cs[i][j]? = some u → w.cell? ⟨b, off + (i * n + j), none⟩ = some u := by
  obtain ⟨a', cap', h1, h2, h3, h4, h5, h6⟩ := h
  simp at h1
  obtain ⟨rfl, rfl, rfl⟩ := h1
  obtain ⟨b, off, g1, g2, g3⟩ := h6 i cs[i] (List.getElem?_eq_getElem hi)
  exact ⟨rfl, b, off, g1, g2, g3⟩
theorem RowAt.shape {F : Nat → Prop} {w : World} {n : Nat} {v : Value} {cs : List (List Value)} (h : RowAt F w n v cs) : ∃ a cap, v = .slice a cs.length cap ∧ cs.length ≤ cap ∧ cap ≤ maxLen := by
  obtain ⟨a, cap, h1, h2, h3, _⟩ := h
  exact ⟨a, cap, h1, h2, h3⟩

theorem flatten_get {α : Type} (n : Nat) : ∀ (cs : List (List α)) (_ : ∀ c ∈ cs, c.length = n) (i : Nat) (c : List α) (_ : cs[i]? = some c) (j : Nat) (_ : j < n), cs.flatten[i * n + j]? = c[j]?
  | [], _, i, c, hc, _, _ => by simp at hc
  | d :: cs, hl, 0, c, hc, j, hj => by
    simp at hc
    subst hc
    have := hl d List.mem_cons_self
    rw [Nat.zero_mul, Nat.zero_add, List.flatten_cons, List.getElem?_append_left (by omega)]
  | d :: cs, hl, i + 1, c, hc, j, hj => by
    have := hl d List.mem_cons_self
    simp at hc
    rw [List.flatten_cons, Nat.succ_mul, List.getElem?_append_right (by omega), show i * n + n + j - d.length = i * n + j by omega]
    exact flatten_get n cs (fun c hc => hl c (List.mem_cons_of_mem _ hc)) i c hc j hj
theorem flatten_len {α : Type} (n : Nat) : ∀ (cs : List (List α)) (_ : ∀ c ∈ cs, c.length = n), cs.flatten.length = cs.length * n
  | [], _ => by simp
  | d :: cs, hl => by
    rw [List.flatten_cons, List.length_append, flatten_len n cs (fun c hc => hl c (List.mem_cons_of_mem _ hc)), hl d List.mem_cons_self, List.length_cons, Nat.succ_mul, Nat.add_comm]

/-- v is a row of the call's own, of elements of n cells each. -/
def OwnC (e : TypeId) (n base : Nat) (w : World) (v : Value) (cs : List (List Value)) : Prop := w.ownsRow base e n v cs.length cs.flatten ∧ ∀ c ∈ cs, c.length = n
theorem OwnC.nil (e : TypeId) (n base : Nat) (w : World) : OwnC e n base w (.slice none 0 0) [] := ⟨World.ownsRow_nil _ _ _ _, by simp⟩
theorem OwnC.empty (e : TypeId) (n base : Nat) (w : World) (b : Nat) (hb : b = w.heap.size) (hB : base ≤ w.heap.size) : OwnC e n base (w.alloc (.cells #[] e)) (.slice (some ⟨b, 0, none⟩) 0 0) [] := by
  subst hb
  exact ⟨World.ownsRow_made w #[] 0 hB (by unfold maxLen; omega) (by simp), by simp⟩
theorem OwnC.lt {e : TypeId} {n base : Nat} {w : World} {v : Value} {cs : List (List Value)} (h : OwnC e n base w v cs) : ∀ b, v.ownBlock = some b → base ≤ b ∧ b < w.heap.size := World.ownsRow.lt h.1
theorem OwnC.keep {e : TypeId} {n base : Nat} {w w' : World} {v : Value} {cs : List (List Value)} (h : OwnC e n base w v cs) {S : Nat → Prop} (ho : Only S w w') (hs : ∀ b, v.ownBlock = some b → ¬ S b) : OwnC e n base w' v cs := by
  refine ⟨⟨h.1.1, ?_⟩, h.2⟩
  rcases h.1.2 with hn | ⟨g, cap, cur, rfl, hg, hh, r⟩
  · exact .inl hn
  · have hlt : g < w.heap.size := (h.lt g rfl).2
    exact .inr ⟨g, cap, cur, rfl, hg, by rw [ho.block g hlt (hs g rfl)]; exact hh, r⟩
theorem OwnC.alloc {e : TypeId} {n base : Nat} {w : World} {v : Value} {cs : List (List Value)} (h : OwnC e n base w v cs) (o : Obj) : OwnC e n base (w.alloc o) v cs := ⟨World.ownsRow.alloc h.1 o, h.2⟩
theorem OwnC.drew {e : TypeId} {n base : Nat} {w : World} {v : Value} {cs : List (List Value)} (h : OwnC e n base w v cs) : OwnC e n base w.drew v cs := h
/-- How it is read: it lies from base on. -/
theorem OwnC.row {e : TypeId} {n base : Nat} {w : World} {v : Value} {cs : List (List Value)} (h : OwnC e n base w v cs) : RowAt (fun b => base ≤ b ∧ v.ownBlock = some b) w n v cs := by
  obtain ⟨h1, hl⟩ := h
  rcases h1.2 with ⟨hv, h0⟩ | ⟨g, cap, cur, hv, hg, hh, hc1, hc2, hc3, hc4⟩
  · have : cs = [] := List.eq_nil_of_length_eq_zero h0
    subst this
    subst hv
    exact RowAt.nil _ _ _
  · subst hv
    refine ⟨_, cap, rfl, hc1, hc2, by simp, hl, fun i c hc => ⟨g, 0, rfl, ⟨hg, rfl⟩, fun j u hu => ?_⟩⟩
    have hci : c.length = n := hl c (List.mem_of_getElem? hc)
    have hj : j < n := by
      rcases Nat.lt_or_ge j c.length with q | q
      · omega
      · rw [List.getElem?_eq_none q] at hu; cases hu
    have hi : i < cs.length := by
      rcases Nat.lt_or_ge i cs.length with q | q
      · exact q
      · rw [List.getElem?_eq_none q] at hc; cases hc
    have hlt : i * n + j < cs.length * n := by
      have : (i + 1) * n ≤ cs.length * n := Nat.mul_le_mul_right n (by omega)
      rw [Nat.succ_mul] at this
      omega
    rw [Nat.zero_add, h1.cellAt _ hlt, flatten_get n cs hl i c hc j hj, hu]

section
variable {P : Program} {w w0 : World} {ops : Array Oper} {rest : List Oper} {o : Oper} {a : Act} {Q : Exit → Act → World → Prop}
/-- append(v, x...), v a row of the call's own, x whatever row of such elements. -/
theorem app_row (hgd : o.guard = none) (s x : Operand) (t : TypeId) (ho : o.op = .call { callee := .builtin .append, args := #[s, x], argTypes := #[t, t] })
    (e : TypeId) (i : TypeInfo) (z : Value) (size bytes : Nat) (ht : P.underlying t = some (.slice e)) (hi : P.info? e = some i) (hz : i.zero = some z) (hsize : i.size = size) (hby : i.bytes = bytes) (hzs : z.cells.size = size) (hsz : 0 < size) (hb8 : bytes ≤ 1000)
    (base : Nat) (v : Value) (cs : List (List Value)) (hs : a.eval s = v) (hown : OwnC e size base w v cs) (F : Nat → Prop) (vx : Value) (ds : List (List Value)) (hx : a.eval x = vx) (hrow : RowAt F w size vx ds)
    (h1 : ∀ c ∈ ds, ∀ u ∈ c, u.oneCell' = true) (hb : cs.length + ds.length ≤ 1000000) (hbase : base ≤ w.heap.size)
    (h : ∀ v' w', OwnC e size base w' v' (cs ++ ds) → Only (fun k => v.ownBlock = some k) w w' → wpList P ops Q rest (a.put o.dst v') w') : wpList P ops Q (o :: rest) a w := by
  obtain ⟨ao, cap, rfl, hc1, hc2, hc3, hl, hcell⟩ := hrow
  cases ao with
  | none =>
    have hcap := hc3 rfl
    subst hcap
    have hd : ds = [] := List.eq_nil_of_length_eq_zero (by omega)
    subst hd
    exact wpList_append_own_none hgd s x t ho base e i size ht hi v cs.length cs.flatten hs hown.1 hx (h v w (by simpa using hown) (Only.refl _ _))
  | some ad =>
    refine wpList_append_own w hgd s x t ho base e i z size bytes ht hi hz hsize hby hzs hsz v cs.length cs.flatten hs hown.1 ad ds.length cap ds.flatten hx (flatten_len size ds hl) ?_ ?_ (by unfold maxLen; omega) ?_ hbase ?_
    · intro j u hu
      have hj : j < ds.length * size := by
        rw [← flatten_len size ds hl]
        rcases Nat.lt_or_ge j ds.flatten.length with q | q
        · exact q
        · rw [List.getElem?_eq_none q] at hu; cases hu
      have hq : j / size < ds.length := Nat.div_lt_of_lt_mul (by rw [Nat.mul_comm]; exact hj)
      have hm : j % size < size := Nat.mod_lt _ hsz
      have e1 : j = (j / size) * size + j % size := by rw [Nat.mul_comm]; exact (Nat.div_add_mod j size).symm
      obtain ⟨b, off, hab, _, hc⟩ := hcell (j / size) ds[j / size] (List.getElem?_eq_getElem hq)
      obtain rfl := Option.some.inj hab
      rw [e1] at hu ⊢
      rw [flatten_get size ds hl _ _ (List.getElem?_eq_getElem hq) _ hm] at hu
      rw [addr_add]
      exact hc _ u hu
    · intro u hu
      obtain ⟨c, hc, huc⟩ := List.mem_flatten.1 hu
      exact h1 c hc u huc
    · have : (cs.length + ds.length) * bytes ≤ 1000000 * 1000 := Nat.mul_le_mul hb hb8
      omega
    · intro v' w' hown' hgrow _
      refine h v' w' ⟨?_, ?_⟩ ⟨hgrow.os, hgrow.tape, hgrow.output, hgrow.size, fun k hk hn => hgrow.block k hk (fun q => hn q.symm)⟩
      · rw [List.length_append, List.flatten_append]
        exact hown'
      · intro c hc
        rcases List.mem_append.1 hc with q | q
        · exact hown.2 c q
        · exact hl c q
end
end Go.Proofs.YtkinmllflodhaaaGreat.Mem
