/- A script as it lies, and what each call of it does but for New and Step. -/
import Derived.Test.YtjdcmeclmaljeaaPickPlain
import Derived.Test.YtjdcmeclmaljeaaThings
import Derived.Deep.DeepMust
import Derived.BigQuiet
namespace Go.Proofs.Ytjdcmeclmaljeaa.Pick
open Go.RowKit Go.Proofs.Ytjdcmeclmaljeaa.Dig Go.Proofs.Ytjdcmeclmaljeaa.Mem Go.Proofs.Ytjdcmeclmaljeaa.Dq Go.Proofs.Ytjdcmeclmaljeaa.Thing Go.Proofs.Ytjdcmeclmaljeaa.Sets
set_option linter.unusedVariables false
set_option linter.unusedSimpArgs false

/-- A script that a call made: its picks, the step at which all is cancelled, how many steps there were. -/
structure Scr (w : World) (b : Nat) (pa : Option Addr) (pc : Nat) (L : List Int) (c : Int) (n : Nat) : Prop where
  box : Is w b #[.slice pa L.length pc, .int .i64 c, .int .i64 (n : Int), .bool true]
  row : RowI w pa pc L
  ne : 0 < L.length → ∀ x, pa = some x → x.block ≠ b
def scrT (b : Nat) (pa : Option Addr) (pc : Nat) (L : List Int) (c : Int) (n : Nat) : Th where
  P w := Scr w b pa pc L c n
  F k := k = b ∨ (0 < L.length ∧ ∃ x, pa = some x ∧ x.block = k)
  keep h ho hs := ⟨h.box.keep ho (hs b (.inl rfl)), ⟨h.row.cap, h.row.rd.only' ho (fun hl x e => hs x.block (.inr ⟨hl, x, e, rfl⟩)), h.row.nil⟩, h.ne⟩
  lt h k hk := by
    rcases hk with rfl | ⟨hl, x, e, rfl⟩
    · exact h.box.lt
    · exact Rd.lt h.row.rd hl x e
section
variable {w w' : World} {b n : Nat} {pa : Option Addr} {pc : Nat} {L : List Int} {c : Int}
theorem Scr.keep (h : Scr w b pa pc L c n) (hb : Below w.heap.size w w') : Scr w' b pa pc L c n :=
  (scrT b pa pc L c n).keep (S := fun _ => False) h (Only.of_below hb) (fun _ _ q => q)
/-- One step more. -/
theorem Scr.more (h : Scr w b pa pc L c n) (m : Nat) : Scr (w.setCell ⟨b, 2, none⟩ (.int .i64 (m : Int))) b pa pc L c m :=
  ⟨h.box.set 2 (.int .i64 (m : Int)), ⟨h.row.cap, h.row.rd.only' (S := fun k => k = b) ((Only.refl _ _).put 2 _) (fun hl x e => h.ne hl x e), h.row.nil⟩, h.ne⟩
theorem over_any (h : Scr w b pa pc L c n) : Calls Try.prog 13 #[.pointer (some ⟨b, 0, none⟩)] w fun e w' => e = .returned (.bool (over c n)) ∧ ∃ q, w' = w.drewN q := by
  obtain ⟨⟨c0, c1, c2, c3⟩, _⟩ := h.box.four
  clear h
  unfold over
  by_cases h1 : 0 ≤ c
  · by_cases h2 : c ≤ (n : Int)
    · rw [decide_eq_true h1, decide_eq_true h2]
      have d1 : decide (0 ≤ c) = true := decide_eq_true h1
      have d2 : decide (c ≤ (n : Int)) = true := decide_eq_true h2
      go_enter Try.func13, Try.ntmps13
      go_wp2
      go_quiet (fail)
      go_wp2
      go_ret
      exact ⟨rfl, _, rfl⟩
    · rw [decide_eq_true h1, decide_eq_false h2]
      have d1 : decide (0 ≤ c) = true := decide_eq_true h1
      have d2 : decide (c ≤ (n : Int)) = false := decide_eq_false h2
      go_enter Try.func13, Try.ntmps13
      go_wp2
      go_quiet (fail)
      go_wp2
      go_ret
      exact ⟨rfl, _, rfl⟩
  · rw [decide_eq_false h1]
    have d1 : decide (0 ≤ c) = false := decide_eq_false h1
    go_enter Try.func13, Try.ntmps13
    go_wp2
    go_quiet (fail)
    go_wp2
    go_ret
    exact ⟨rfl, _, rfl⟩
theorem over_nil (w : World) : Calls Try.prog 13 #[.pointer none] w fun e w' => e = .returned (.bool false) ∧ ∃ q, w' = w.drewN q := by
  go_enter Try.func13, Try.ntmps13
  go_wp2
  go_quiet (fail)
  go_wp2
  go_ret
  exact ⟨rfl, _, rfl⟩
theorem steps_any (h : Scr w b pa pc L c n) : Calls Try.prog 11 #[.pointer (some ⟨b, 0, none⟩)] w fun e w' => e = .returned (.int .i64 (n : Int)) ∧ w' = w := by
  obtain ⟨⟨c0, c1, c2, c3⟩, _⟩ := h.box.four
  clear h
  go_enter Try.func11, Try.ntmps11
  go_wp2
  go_ret
  exact ⟨rfl, rfl⟩
theorem steps_nil (w : World) : Calls Try.prog 11 #[.pointer none] w fun e w' => e = .returned (.int .i64 0) ∧ w' = w := by
  go_enter Try.func11, Try.ntmps11
  go_wp2
  go_ret
  exact ⟨rfl, rfl⟩
theorem used_any (h : Scr w b pa pc L c n) : Calls Try.prog 12 #[.pointer (some ⟨b, 0, none⟩)] w fun e w' => e = .returned (.int .i64 (min n L.length : Nat)) ∧ ∃ q, w' = w.drewN q := by
  obtain ⟨⟨c0, c1, c2, c3⟩, _⟩ := h.box.four
  clear h
  obtain ⟨m, hm⟩ : ∃ m, m = L.length := ⟨_, rfl⟩
  rw [← hm] at c0 ⊢
  clear hm
  by_cases h : ¬ m < n
  · have d1 : ¬ (m : Int) < (n : Int) := by omega
    rw [show min n m = n by omega]
    go_enter Try.func12, Try.ntmps12
    go_wp2
    go_quiet (fail)
    go_wp2
    go_ret
    exact ⟨rfl, _, rfl⟩
  · have d1 : (m : Int) < (n : Int) := by omega
    have d2 : m < n := by omega
    clear h
    rw [show min n m = m by omega]
    go_enter Try.func12, Try.ntmps12
    go_wp2
    go_quiet (fail)
    go_wp2
    go_ret
    exact ⟨rfl, _, rfl⟩
theorem used_nil (w : World) : Calls Try.prog 12 #[.pointer none] w fun e w' => e = .returned (.int .i64 0) ∧ ∃ q, w' = w.drewN q := by
  go_enter Try.func12, Try.ntmps12
  go_wp2
  go_ret
  exact ⟨rfl, 0, rfl⟩
theorem next_any (h : Scr w b pa pc L c n) : Calls Try.prog 20 #[.pointer (some ⟨b, 0, none⟩)] w fun e w' => e = .returned (.int .i64 (L.getD n 0)) ∧ ∃ q, w' = w.drewN q := by
  obtain ⟨⟨c0, c1, c2, c3⟩, _⟩ := h.box.four
  by_cases hlt : n < L.length
  · obtain ⟨b1, o1, rfl, hc⟩ := h.row.at hlt
    obtain ⟨z, hz⟩ : ∃ z, z = L.getD n 0 := ⟨_, rfl⟩
    obtain ⟨m, hm⟩ : ∃ m, m = L.length := ⟨_, rfl⟩
    rw [← hm] at c0 hlt
    rw [← hz] at hc ⊢
    have d1 : (n : Int) < (m : Int) := by omega
    have d2 : decide ((n : Int) < (m : Int)) = true := decide_eq_true d1
    have l1 := h.row.rd.1
    rw [← hm] at l1
    clear h hm hz
    go_enter Try.func20, Try.ntmps20
    go_wp2
    go_quiet (fail)
    go_wp2
    go_quiet (fail)
    go_wp2
    go_ret
    exact ⟨rfl, _, World.drewN_drewN _ _ _⟩
  · have e : L.getD n 0 = 0 := by rw [List.getD_eq_getElem?_getD, List.getElem?_eq_none (by omega)]; rfl
    rw [e]
    obtain ⟨m, hm⟩ : ∃ m, m = L.length := ⟨_, rfl⟩
    rw [← hm] at c0 hlt
    have d1 : ¬ (n : Int) < (m : Int) := by omega
    have d2 : decide ((n : Int) < (m : Int)) = false := decide_eq_false d1
    clear h hm e
    go_enter Try.func20, Try.ntmps20
    go_wp2
    go_quiet (fail)
    go_wp2
    go_ret
    exact ⟨rfl, _, rfl⟩
end
theorem mod_any (x : Int) (m : Nat) (w : World) (hx : (Lit.int .i64 x).wf = true) (hm : 0 < m) (hm2 : m ≤ 1000000) {z : Int} (hz : x % (m : Int) = z) : Calls Try.prog 19 #[.int .i64 x, .int .i64 (m : Int)] w fun e w' => e = .returned (.int .i64 z) ∧ w' = w := by
  have hb := bounds_i64 hx
  obtain ⟨q1, q2⟩ := hb
  have hp := tmod_place x hm
  rw [hz] at hp
  have g0 : ¬ ((m : Int) = 0) := by omega
  have a1 : -(m : Int) < x.tmod (m : Int) ∧ x.tmod (m : Int) < (m : Int) := by
    have h1 := Int.emod_nonneg x (show (m : Int) ≠ 0 by omega)
    have h2 := Int.emod_lt_of_pos x (show (0 : Int) < m by omega)
    rw [Int.tmod_eq_emod]
    split <;> omega
  obtain ⟨a2, a3⟩ := a1
  have g3 : IntKind.i64.wrap (x.tmod (m : Int)) = x.tmod (m : Int) := IntWalk.i64_in _ (by omega)
  by_cases h0 : x.tmod (m : Int) < 0
  · rw [if_pos h0] at hp
    clear hx hz
    go_enter Try.func19, Try.ntmps19
    go_wp2
    go_ret
    rw [← hp]
    exact ⟨rfl, rfl⟩
  · rw [if_neg h0] at hp
    clear hx hz
    go_enter Try.func19, Try.ntmps19
    go_wp2
    go_ret
    rw [← hp]
    exact ⟨rfl, rfl⟩
end Go.Proofs.Ytjdcmeclmaljeaa.Pick
