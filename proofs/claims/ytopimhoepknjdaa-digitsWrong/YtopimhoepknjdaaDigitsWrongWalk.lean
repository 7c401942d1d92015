/- The walk of DigitsWrong: whatever the bytes and the place are, it returns true and writes nothing that was there. -/
import Derived.Test.YtopimhoepknjdaaDigWorks
import Derived.Test.YtopimhoepknjdaaFrame
namespace Go.Proofs.Ytopimhoepknjdaa.Walk
open Go.RowKit Dig
set_option linter.unusedVariables false
set_option linter.unusedSimpArgs false

theorem val_mono (z : Nat → Int) (a : Nat) : ∀ m j, j ≤ m → (∀ i, i < m → dgt (z (a + i)) = true) → val z a j ≤ val z a m
  | 0, j, h, _ => by obtain rfl : j = 0 := by omega
                     exact Int.le_refl _
  | m + 1, j, h, hd => by
    by_cases e : j = m + 1
    · subst e; exact Int.le_refl _
    · have h1 := val_mono z a m j (by omega) (fun i hi => hd i (by omega))
      have h2 := (val_bd z a m (fun i hi => hd i (by omega))).1
      have h3 := dgt_iff.1 (hd m (by omega))
      simp only [val]; omega
theorem okm_mono {z : Nat → Int} {a m j : Nat} (h : okm z a m = true) (h1 : 1 ≤ j) (h2 : j ≤ m) (hd : ∀ i, i < m → dgt (z (a + i)) = true) : okm z a j = true := by
  rw [okm_iff] at h ⊢
  obtain ⟨q1, q2, q3, q4⟩ := h
  have := val_mono z a m j h2 hd
  refine ⟨h1, by omega, fun g => q3 ⟨by omega, g.2⟩, by omega⟩
/-- What stands ahead of a wrong place is read to its end. -/
theorem parse_ahead {z : Nat → Int} {a k : Nat} (h1 : 1 ≤ k) (hok : okm z a k = true) (hd : ∀ i, i < k → dgt (z (a + i)) = true) : parse z (a + k) (a : Int) = (val z a k, ((a + k : Nat) : Int), true) := by
  rcases parse_spec z (a + k) a (by omega) with ⟨q, g1, g2, g3, g4, g5, g6⟩ | ⟨q, g2, g3, g4, g5, g6⟩
  · by_cases e : q < k
    · exact absurd ⟨by omega, hd q e⟩ g5
    · obtain rfl : q = k := by omega
      exact g6
  · exfalso
    rcases g5 with ⟨e, g⟩ | ⟨q1, q2, q3⟩
    · exact g ⟨by omega, by have := hd 0 (by omega); simpa using this⟩
    · exact q3 (okm_mono hok (by omega) (by omega) hd)
theorem okm_one {z : Nat → Int} {a : Nat} (h : dgt (z a) = true) : okm z a 1 = true := by
  have := dgt_iff.1 h
  rw [okm_iff]; simp [val]; omega

theorem walk_digitsWrong (w : World) (a : Option Addr) (len cap : Nat) (zs : List Int) (h : Frame.IsRow .u8 w a len cap zs) (at_ : Int) (wa : (Lit.int .i64 at_).wf = true) :
    Calls Try.prog 7 #[.slice a len cap, .int .i64 at_] w fun e w' => e = .returned (.bool true) ∧ Below w.heap.size w w' := by
  have hcap := h.cap
  by_cases h300 : 300 < len
  · have g300 : (300 : Int) < len := by omega
    clear h wa
    go_enter Try.func7, Try.ntmps7
    go_wp2_with (go_at_call 8; with_reducible refine (works_any _).mono ?_; rintro e w2 ⟨rfl, hb2⟩)
    go_ret
    exact ⟨rfl, hb2⟩
  have g300 : ¬ (300 : Int) < len := by omega
  have hr := h.rd (by omega)
  obtain ⟨z, hz⟩ : ∃ z : Nat → Int, (fun i => zs.getD i 0) = z := ⟨_, rfl⟩
  rw [hz] at hr
  clear h wa hz
  by_cases hlo : at_ < 0
  · go_enter Try.func7, Try.ntmps7
    go_wp2_with (go_at_call 8; with_reducible refine (works_any _).mono ?_; rintro e w2 ⟨rfl, hb2⟩)
    go_ret
    exact ⟨rfl, hb2⟩
  by_cases hhi : (len : Int) < at_
  · go_enter Try.func7, Try.ntmps7
    go_wp2_with (go_at_call 8; with_reducible refine (works_any _).mono ?_; rintro e w2 ⟨rfl, hb2⟩)
    go_ret
    exact ⟨rfl, hb2⟩
  obtain ⟨a0, rfl⟩ : ∃ a0 : Nat, at_ = a0 := ⟨at_.toNat, by omega⟩
  have hn : ¬ len < a0 := by omega
  rcases parse_spec z len a0 (by omega) with ⟨k, g1, g2, g3, g4, g5, g6⟩ | ⟨k, g2, g3, g4, g5, g6⟩
  · have hp : Hid (parse z len (a0 : Int) = (val z a0 k, ((a0 + k : Nat) : Int), true)) := g6
    clear g3 g4 g5 g6
    go_enter Try.func7, Try.ntmps7
    go_wp2_with (first | (go_at_call 9; with_reducible refine (parse_eq _ _ _ z _ _ hr hp).mono ?_; rintro e w' ⟨rfl, hq⟩; replace hq := hq.symm; subst hq) | (go_at_call 8; with_reducible refine (works_any _).mono ?_; rintro e w2 ⟨rfl, hb2⟩))
    go_ret
    exact ⟨rfl, hb2⟩
  · have hp : Hid (parse z len (a0 : Int) = (0, ((a0 + k : Nat) : Int), false)) := g6
    by_cases hk : k = 0
    · subst hk
      have hnd : ¬ (a0 < len ∧ dgt (z a0) = true) := by
        rcases g5 with ⟨_, g⟩ | ⟨q1, q2, q3⟩
        · exact g
        · exact absurd (okm_one (by simpa using q2)) q3
      have hp' : Hid (parse z len (a0 : Int) = (0, (a0 : Int), false)) := by simpa using hp
      clear g3 g4 g5 g6 hp
      by_cases hl : a0 = len
      · subst hl
        go_enter Try.func7, Try.ntmps7
        go_wp2_with (first | (go_at_call 9; with_reducible refine (parse_eq _ _ _ z _ _ hr hp').mono ?_; rintro e w' ⟨rfl, hq⟩; replace hq := hq.symm; subst hq) | (go_at_call 8; with_reducible refine (works_any _).mono ?_; rintro e w2 ⟨rfl, hb2⟩))
        go_ret
        exact ⟨rfl, hb2⟩
      · have hlt : a0 < len := by omega
        have hne : ((a0 : Int) == len) = false := by simp; omega
        have hd : dgt (z a0) = false := by simpa [hlt] using hnd
        obtain ⟨b, off, rfl, hcell, hz0, hz1⟩ := hr.u8 hlt
        clear hnd
        go_enter Try.func7, Try.ntmps7
        go_wp2_with (first | (go_at_call 9; with_reducible refine (parse_eq _ _ _ z _ _ hr hp').mono ?_; rintro e w' ⟨rfl, hq⟩; replace hq := hq.symm; subst hq) | (go_at_call 17; with_reducible refine (rdigit_any _ _).mono ?_; rintro e w' ⟨rfl, hq⟩; replace hq := hq.symm; subst hq) | (go_at_call 8; with_reducible refine (works_any _).mono ?_; rintro e w2 ⟨rfl, hb2⟩))
        go_ret
        exact ⟨rfl, hb2⟩
    · obtain ⟨q1, q2, q3⟩ : a0 + k < len ∧ dgt (z (a0 + k)) = true ∧ ¬ okm z a0 (k + 1) = true := by
        rcases g5 with ⟨g, _⟩ | g
        · exact absurd g hk
        · exact g
      have hok : okm z a0 k = true := by
        rcases g3 with g | g
        · exact absurd g hk
        · exact g
      have hp2 : Hid (parse z (a0 + k) (a0 : Int) = (val z a0 k, ((a0 + k : Nat) : Int), true)) := parse_ahead (by omega) hok g4
      obtain ⟨b, off, rfl, hcell, hz0, hz1⟩ := hr.u8 q1
      have hr2 : Rd .u8 w (some ⟨b, off, none⟩) (a0 + k) z := ⟨by have := hr.1; omega, fun i hi => hr.2 i (by omega)⟩
      have hne : (((a0 : Int) + k) == a0) = false := by simp; omega
      have hk1 : 1 ≤ k := by omega
      clear g3 g4 g5 g6 q3 hok hk
      go_enter Try.func7, Try.ntmps7
      go_wp2_with (first | (go_at_call 9; with_reducible refine (parse_eq _ _ _ z _ _ hr hp).mono ?_; rintro e w' ⟨rfl, hq⟩; replace hq := hq.symm; subst hq) | (go_at_call 9; with_reducible refine (parse_eq _ _ _ z _ _ hr2 hp2).mono ?_; rintro e w' ⟨rfl, hq⟩; replace hq := hq.symm; subst hq) | (go_at_call 17; with_reducible refine (rdigit_any _ _).mono ?_; rintro e w' ⟨rfl, hq⟩; replace hq := hq.symm; subst hq) | (go_at_call 8; with_reducible refine (works_any _).mono ?_; rintro e w2 ⟨rfl, hb2⟩))
      go_ret
      exact ⟨rfl, hb2⟩
end Go.Proofs.Ytopimhoepknjdaa.Walk
