/- PicksReady, walked. -/
import Derived.Test.YtjdcmeclmaljeaaPickEnv
import Derived.Test.YtjdcmeclmaljeaaRowArg
import Derived.Test.YtjdcmeclmaljeaaLists
namespace Go.Proofs.Ytjdcmeclmaljeaa.Walk
open Go.RowKit Go.Proofs.Ytjdcmeclmaljeaa.Dig Go.Proofs.Ytjdcmeclmaljeaa.Mem Go.Proofs.Ytjdcmeclmaljeaa.Dq Go.Proofs.Ytjdcmeclmaljeaa.Thing Go.Proofs.Ytjdcmeclmaljeaa.Pick Go.Proofs.Ytjdcmeclmaljeaa.Sets
set_option linter.unusedVariables false
set_option linter.unusedSimpArgs false

/-- Row i of the argument, in whatever world behind. -/
theorem lists_row {w : World} {a : Option Addr} {n p : Nat} {ls : List (List Int)} (h : ListsAt (fun b => b < w.heap.size) w (.slice a n p) ls) {i : Nat} (hi : i < n) :
    ∃ b off la lc l, a = some ⟨b, off, none⟩ ∧ (∀ w', Below w.heap.size w w' → w'.cell? ⟨b, off + i, none⟩ = some (.slice la (List.length l) lc) ∧ (List.length l ≤ 1000 → RowI w' la lc l)) ∧ List.length l ≤ 9223372036854775807 := by
  obtain ⟨a', c', e, q1, q2⟩ := h.shape
  injection e with e1 e2 e3
  subst e2
  obtain ⟨b, off, la, lc, ea, hc, hl, hm⟩ := h.at hi
  have hb := lt_of_cell hc
  refine ⟨b, off, la, lc, ls.getD i [], ea, fun w' ho => ⟨(ho.cell (p := ⟨b, off + i, none⟩) hb).trans hc, fun hle => (hl.row (by omega)).keep ho⟩, by unfold maxLen at hm; omega⟩
def ReadR (w : World) (b : Nat) (L : List Int) (m : Nat) (kv : Value) (wr : World) : Prop := ∃ k n : Nat, k ≤ m ∧ n ≤ k ∧ kv = .int .i64 (k : Int) ∧ Hid (SE w b L (-1) n [] wr)
theorem over_never (n : Nat) : over (-1) n = false := by simp [over]
set_option maxHeartbeats 2000000 in
set_option maxRecDepth 20000 in
theorem walk_picksReady (w : World) (a : Option Addr) (n p : Nat) (zs : List Int) (ha : Frame.IsRow .i64 w a n p zs) (a2 : Option Addr) (m p2 : Nat) (ls : List (List Int)) (hls : ListsAt (fun b => b < w.heap.size) w (.slice a2 m p2) ls) :
    Calls Try.prog 4 #[.slice a n p, .slice a2 m p2] w fun e w' => e = .returned (.bool true) ∧ Below w.heap.size w w' := by
  by_cases h1 : 100 < n
  · have g1 : (100 : Int) < n := by omega
    clear ha hls
    go_enter Try.func4, Try.ntmps4
    go_wp2_with (go_at_call 7; go_must ((with_reducible refine (works9_any _).mono ?_); rintro e w1 ⟨rfl, hb1⟩))
    go_ret
    exact ⟨rfl, hb1⟩
  by_cases h2 : 100 < m
  · have g1 : ¬ (100 : Int) < n := by omega
    have g2 : (100 : Int) < m := by omega
    clear ha hls
    go_enter Try.func4, Try.ntmps4
    go_wp2_with (go_at_call 7; go_must ((with_reducible refine (works9_any _).mono ?_); rintro e w1 ⟨rfl, hb1⟩))
    go_ret
    exact ⟨rfl, hb1⟩
  obtain ⟨L, hL, hr⟩ := ha.rowi (by omega)
  have g1 : ¬ (100 : Int) < n := by omega
  have g2 : ¬ (100 : Int) < m := by omega
  have N0 := hide (newE (hide (Kn.start w)) hr hL (by omega) (-1))
  have HLS := hide (fun i (hi : i < m) => lists_row hls hi)
  clear ha hls hr hL
  go_enter Try.func4, Try.ntmps4
  go_wp2_with (go_at_call 8; go_must ((with_reducible refine (Hid.out N0).mono ?_); rintro e w1 ⟨b, rfl, H1⟩))
  have M0 : Hid (ReadR w b L m (.int .i64 0) w1) := hide ⟨0, 0, by omega, by omega, rfl, H1⟩
  clear N0 H1
  go_loopw [6] (fun i wr => ReadR w b L m i wr) (fun i _ => m - (intOf i).toNat)
  case atStart => exact M0.out
  case round =>
    obtain ⟨k, n0, hk, hn0, rfl, HE⟩ := hrel
    clear M0
    by_cases hlt : k < m
    · have hli : (k : Int) < m := by omega
      obtain ⟨lb, lo, la, lc, l, rfl, hrow, hle⟩ := HLS.out k hlt
      obtain ⟨hc0, hr0⟩ := hrow wr HE.out.below
      obtain ⟨ln, hln⟩ : ∃ ln, ln = l.length := ⟨_, rfl⟩
      rw [← hln] at hc0
      have HLN := hide hln
      by_cases hbig : 20 < ln
      · have g3 : (20 : Int) < ln := by omega
        have HB := hide HE.out.below
        clear hrow hr0 hln HE hle
        go_wp2_with (go_at_call 7; go_must ((with_reducible refine (works9_any _).mono ?_); rintro e w9 ⟨rfl, hb9⟩))
        go_ret
        exact ⟨rfl, HB.out.trans (hb9.mono HB.out.size)⟩
      · have g3 : ¬ (20 : Int) < ln := by omega
        have C1 := hide (stepsE HE (z := (n0 : Int)) rfl)
        by_cases h0 : ln = 0
        · have hl0 : l = [] := List.eq_nil_of_length_eq_zero (by omega)
          subst hl0
          have hs : StepIs L (-1) n0 [] 0 10 n0 := ⟨by unfold stepS; rw [if_neg (by simp [over_never]), if_pos rfl]⟩
          have P := hide (stepE HE (by omega) hln (by simp) (hr0 (by simp)) hs)
          have HRW := hide hrow
          subst h0
          clear hrow hr0 hln HE hle hs
          go_wp2_with (first
            | (go_at_call 11; (with_reducible refine (Hid.out C1).mono ?_); go_must (clear C1; rintro e w2 ⟨rfl, rfl⟩))
            | (go_at_call 9; go_must ((with_reducible refine (Hid.out P).mono ?_); rintro e w3 ⟨rfl, H3⟩; obtain ⟨hc1, _⟩ := HRW.out w3 H3.out.below; have C2 := hide (stepsE H3 (z := (n0 : Int)) rfl); clear P))
            | (go_at_call 11; (with_reducible refine (Hid.out C2).mono ?_); go_must (clear C2; rintro e w4 ⟨rfl, rfl⟩)))
          go_roundw
          case rel => exact ⟨k + 1, n0, by omega, by omega, by simp, H3⟩
          case measure => simp [intOf]; omega
        · have hl0 : l ≠ [] := fun e => by subst e; simp at hln; omega
          have g4 : ((ln : Int) == 0) = false := by simp; omega
          obtain ⟨x, hx⟩ : ∃ x, x = told L n0 l := ⟨_, rfl⟩
          have hs : StepIs L (-1) n0 l x 0 (n0 + 1) := ⟨by unfold stepS; rw [if_neg (by simp [over_never]), if_neg hl0, hx]⟩
          have P := hide (stepE HE (by omega) hln (by omega) (hr0 (by omega)) hs)
          have hmem : x ∈ l := by rw [hx]; exact told_mem L n0 hl0
          have HH : Hid (∀ W, Below w.heap.size w W → Calls Try.prog 15 #[.slice la ln lc, .int .i64 x] W fun e w' => e = .returned (.bool true) ∧ w' = W) := hide (fun W ho => by
            have := rhas_any la lc l x W (row_v ((hrow W ho).2 (by omega)))
            rw [← hln, decide_eq_true hmem] at this
            exact this)
          have HRW := hide hrow
          have hn1 : (n0 : Int) ≤ 100 := by omega
          clear hrow hr0 hln HE hle hs hmem hx hl0 h0
          go_wp2_with (first
            | (go_at_call 11; (with_reducible refine (Hid.out C1).mono ?_); go_must (clear C1; rintro e w2 ⟨rfl, rfl⟩))
            | (go_at_call 9; go_must ((with_reducible refine (Hid.out P).mono ?_); rintro e w3 ⟨rfl, H3⟩; obtain ⟨hc1, _⟩ := HRW.out w3 H3.out.below; rw [← HLN.out] at hc1; have H5 := hide (HH.out w3 H3.out.below); have C2 := hide (stepsE H3 (z := (n0 : Int) + 1) (by simp)); clear P))
            | (go_at_call 15; go_must ((with_reducible refine (Hid.out H5).mono ?_); rintro e w5 ⟨rfl, rfl⟩))
            | (go_at_call 11; (with_reducible refine (Hid.out C2).mono ?_); go_must (clear C2; rintro e w4 ⟨rfl, rfl⟩)))
          go_roundw
          case rel => exact ⟨k + 1, n0 + 1, by omega, by omega, by simp, H3⟩
          case measure => simp [intOf]; omega
    · have hge : ¬ (k : Int) < m := by omega
      have HB := hide HE.out.below
      clear HE
      go_wp2_with (go_at_call 7; go_must ((with_reducible refine (works9_any _).mono ?_); rintro e w9 ⟨rfl, hb9⟩))
      go_ret
      exact ⟨rfl, HB.out.trans (hb9.mono HB.out.size)⟩
end Go.Proofs.Ytjdcmeclmaljeaa.Walk
