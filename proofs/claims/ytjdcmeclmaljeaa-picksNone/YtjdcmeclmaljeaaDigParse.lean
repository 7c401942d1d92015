/- Contracts of the program's and the document's ways to read a number: each answers what the plain function tells, and leaves the world alone. -/
import Derived.Test.YtjdcmeclmaljeaaRows
import Derived.Test.YtjdcmeclmaljeaaDigPlain
import Derived.WalkKit
import Derived.Handy
namespace Go.Proofs.Ytjdcmeclmaljeaa.Dig
open Go.RowKit
set_option linter.unusedVariables false
set_option linter.unusedSimpArgs false

/-- What is read of a row of numbers of some kind: its cells. -/
def Rd (k : IntKind) (w : World) (a : Option Addr) (len : Nat) (z : Nat → Int) : Prop :=
  len ≤ 1000000000000 ∧ ∀ i, i < len → ∃ b off, a = some ⟨b, off, none⟩ ∧ w.cell? ⟨b, off + i, none⟩ = some (.int k (z i)) ∧ (Lit.int k (z i)).wf = true

theorem ret3 {k1 k2 : IntKind} {n n' t t' : Int} {b b' : Bool} (r : Int × Int × Bool) (h : r = (n', t', b')) (h1 : n = n') (h2 : t = t') (h3 : b = b') :
    Ending.returned (.tuple #[.int k1 n, .int k2 t, .bool b]) = .returned (.tuple #[.int k1 r.1, .int k2 r.2.1, .bool r.2.2]) := by subst h h1 h2 h3; rfl
theorem Rd.le {k : IntKind} {w : World} {a : Option Addr} {len : Nat} {z : Nat → Int} (h : Rd k w a len z) : len ≤ 1000000000000 := h.1
theorem Rd.u8 {w : World} {a : Option Addr} {len : Nat} {z : Nat → Int} (h : Rd .u8 w a len z) {i : Nat} (hi : i < len) :
    ∃ b off, a = some ⟨b, off, none⟩ ∧ w.cell? ⟨b, off + i, none⟩ = some (.int .u8 (z i)) ∧ 0 ≤ z i ∧ z i ≤ 255 := by
  obtain ⟨b, off, h1, h2, h3⟩ := h.2 i hi
  have := bounds_u8 h3
  exact ⟨b, off, h1, h2, by omega, by omega⟩

def PRel (z : Nat → Int) (len a0 : Nat) (n t : Value) : Prop :=
  ∃ m : Nat, a0 + m ≤ len ∧ t = .int .i64 ((a0 : Int) + m) ∧ n = .int .i64 (val z a0 m) ∧ (∀ j, j < m → dgt (z (a0 + j)) = true) ∧ (m = 0 ∨ okm z a0 m = true) ∧ Hid (parse z len (a0 : Int) = scan z len a0 (len - a0 - m) m)

theorem val_ten {z : Nat → Int} {s k : Nat} (hd : ∀ j, j < k → dgt (z (s + j)) = true) (hk : k ≤ 10) : 0 ≤ val z s k ∧ val z s k ≤ 10000000000 := by
  have h := val_bd z s k hd
  have := pow_le_of hk
  have e : (10 : Int) ^ 10 = 10000000000 := by decide
  omega
theorem ret1 {k : IntKind} {n n' : Int} (h : n = n') : Ending.returned (.int k n) = .returned (.int k n') := by rw [h]
/-- What the document's Value tells of a row of digits. -/
def valS (z : Nat → Int) (s len : Nat) : Int := if okm z s len = true then val z s len else -1
theorem Rd.sub {w : World} {b off len : Nat} {z : Nat → Int} {k : IntKind} (h : Rd k w (some ⟨b, off, none⟩) len z) (s l : Nat) (hl : s + l ≤ len) : Rd k w (some ⟨b, off + s, none⟩) l (fun i => z (s + i)) := by
  refine ⟨by have := h.1; omega, fun i hi => ?_⟩
  obtain ⟨b', off', e, hc, hw⟩ := h.2 (s + i) (by omega)
  simp only [Option.some.injEq, Addr.mk.injEq] at e
  obtain ⟨rfl, rfl, _⟩ := e
  exact ⟨b, off + s, rfl, by rw [Nat.add_assoc]; exact hc, hw⟩
theorem valS_neg {z : Nat → Int} {s l : Nat} (h : ¬ okm z s l = true) : valS z s l < 0 := by rw [valS, if_neg h]; omega
theorem valS_pos {z : Nat → Int} {s l : Nat} (h : okm z s l = true) : valS z s l = val z s l := by rw [valS, if_pos h]
def EndRel (z : Nat → Int) (len a0 : Nat) (t : Value) : Prop := ∃ m : Nat, a0 + m ≤ len ∧ t = .int .i64 ((a0 : Int) + m) ∧ (∀ j, j < m → dgt (z (a0 + j)) = true)
def KRel (z : Nat → Int) (len a0 e : Nat) (t : Value) : Prop := ∃ m : Nat, m ≤ e ∧ t = .int .i64 ((a0 : Int) + m + 1) ∧ (m = 0 ∨ okm z a0 m = true) ∧ Hid (parse z len (a0 : Int) = scan z len a0 (len - a0 - m) m)

end Go.Proofs.Ytjdcmeclmaljeaa.Dig
