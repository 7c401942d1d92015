/- PicksCancel, walked. -/
import Derived.Test.YtjdcmeclmaljeaaPickEnv
import Derived.Test.YtjdcmeclmaljeaaRowArg
namespace Go.Proofs.Ytjdcmeclmaljeaa.Walk
open Go.RowKit Go.Proofs.Ytjdcmeclmaljeaa.Dig Go.Proofs.Ytjdcmeclmaljeaa.Mem Go.Proofs.Ytjdcmeclmaljeaa.Dq Go.Proofs.Ytjdcmeclmaljeaa.Thing Go.Proofs.Ytjdcmeclmaljeaa.Pick
set_option linter.unusedVariables false
set_option linter.unusedSimpArgs false

/-- How many steps there were, k times asked. -/
def nC (c : Int) (k : Nat) : Nat := if 0 ≤ c then min k c.toNat else k
theorem nC_le (c : Int) (k : Nat) : nC c k ≤ k := by unfold nC; split <;> omega
theorem nC_over {c : Int} {k : Nat} (h : 0 ≤ c ∧ c ≤ (k : Int)) : over c (nC c k) = true ∧ nC c (k + 1) = nC c k := by
  unfold nC over
  rw [if_pos h.1, if_pos h.1]
  have e : min k c.toNat = c.toNat := by omega
  refine ⟨?_, by omega⟩
  rw [e]
  simp
  omega
theorem nC_go {c : Int} {k : Nat} (h : ¬ (0 ≤ c ∧ c ≤ (k : Int))) : over c (nC c k) = false ∧ nC c (k + 1) = nC c k + 1 := by
  unfold nC over
  by_cases h0 : 0 ≤ c
  · rw [if_pos h0, if_pos h0]
    have e : min k c.toNat = k := by omega
    refine ⟨?_, by omega⟩
    rw [e]
    simp
    omega
  · rw [if_neg h0, if_neg h0]
    refine ⟨by simp; omega, rfl⟩
theorem step_late {L : List Int} {c : Int} {k : Nat} (h : 0 ≤ c ∧ c ≤ (k : Int)) (l : List Int) : StepIs L c (nC c k) l 0 8 (nC c (k + 1)) := by
  obtain ⟨h1, h2⟩ := nC_over h
  refine ⟨?_⟩
  unfold stepS
  rw [if_pos h1, h2]
theorem step_on {L : List Int} {c : Int} {k : Nat} (h : ¬ (0 ≤ c ∧ c ≤ (k : Int))) : ∃ x, (x = 3 ∨ x = 8 ∨ x = 12) ∧ StepIs L c (nC c k) [3, 8, 12] x 0 (nC c (k + 1)) := by
  obtain ⟨h1, h2⟩ := nC_go h
  refine ⟨told L (nC c k) [3, 8, 12], by simpa using told_mem L (nC c k) (l := [3, 8, 12]) (by simp), ⟨?_⟩⟩
  unfold stepS
  rw [if_neg (by simp [h1]), if_neg (by simp), h2]
def CanR (w : World) (b : Nat) (L : List Int) (c : Int) (m : Nat) (kv : Value) (wr : World) : Prop := ∃ k : Nat, k ≤ m ∧ kv = .int .i64 (k : Int) ∧ Hid (SE w b L c (nC c k) [] wr)
set_option maxHeartbeats 2000000 in
set_option maxRecDepth 20000 in
theorem walk_picksCancel (w : World) (a : Option Addr) (n p : Nat) (zs : List Int) (ha : Frame.IsRow .i64 w a n p zs) (c : Int) (hc : (Lit.int .i64 c).wf = true) (mi : Int) (hm : (Lit.int .u16 mi).wf = true) :
    Calls Try.prog 5 #[.slice a n p, .int .i64 c, .int .u16 mi] w fun e w' => e = .returned (.bool true) ∧ Below w.heap.size w w' := by
  obtain ⟨q1, q2⟩ := ha.cap
  obtain ⟨c1, c2⟩ := bounds_i64 hc
  have hmb := bounds_u16 hm
  obtain ⟨m, rfl⟩ : ∃ m : Nat, mi = (m : Int) := ⟨mi.toNat, by omega⟩
  by_cases h1 : 100 < n
  · have g1 : (100 : Int) < n := by omega
    clear ha hm hc q1 q2 hmb
    go_enter Try.func5, Try.ntmps5
    go_wp2_with (go_at_call 7; go_must ((with_reducible refine (works9_any _).mono ?_); rintro e w1 ⟨rfl, hb1⟩))
    go_ret
    exact ⟨rfl, hb1⟩
  by_cases h2 : 300 < m
  · have g1 : ¬ (100 : Int) < n := by omega
    have g2 : (300 : Int) < m := by omega
    clear ha hm hc q1 q2 hmb
    go_enter Try.func5, Try.ntmps5
    go_wp2_with (go_at_call 7; go_must ((with_reducible refine (works9_any _).mono ?_); rintro e w1 ⟨rfl, hb1⟩))
    go_ret
    exact ⟨rfl, hb1⟩
  obtain ⟨L, hL, hr⟩ := ha.rowi (by omega)
  have g1 : ¬ (100 : Int) < n := by omega
  have g2 : ¬ (300 : Int) < m := by omega
  have N0 := hide (newE (hide (Kn.start w)) hr hL (by omega) c)
  have HL := hide hL
  clear ha hm hc hr hL q1 q2 hmb
  go_enter Try.func5, Try.ntmps5
  go_wp2_with (go_at_call 8; go_must ((with_reducible refine (Hid.out N0).mono ?_); rintro e w1 ⟨b, rfl, H1⟩))
  have M0 : Hid (CanR w b L c m (.int .i64 0) w1) := hide ⟨0, by omega, rfl, by have e : nC c 0 = 0 := by have := nC_le c 0; omega
                                                                                rw [e]; exact H1⟩
  clear N0 H1
  go_loopw [8] (fun i wr => CanR w b L c m i wr) (fun i _ => m - (intOf i).toNat)
  case atStart => exact M0.out
  case round =>
    obtain ⟨k, hk, rfl, HE⟩ := hrel
    clear M0
    by_cases hlt : k < m
    · have hli : (k : Int) < m := by omega
      have hk2 := nC_le c k
      have HR := hide (rowi_made wr [3, 8, 12] 3 (p := wr.heap.size) (n := 3) rfl rfl (by simp) (wfl_of (by decide)))
      have HE2 := hide (HE.out.keep (w' := wr.alloc (.cells #[.int .i64 3, .int .i64 8, .int .i64 12] 3)) ((Below.refl _ _).alloc (Nat.le_refl _) _))
      by_cases hl : 0 ≤ c ∧ c ≤ (k : Int)
      · have P := hide (stepE (k := 3) HE2 (by omega) rfl (by decide) HR.out (step_late (L := L) hl [3, 8, 12]))
        obtain ⟨l1, l2⟩ := hl
        clear HE HE2 HR
        go_wp2_with (go_at_call 9; go_must ((with_reducible refine (Hid.out P).mono ?_); rintro e w3 ⟨rfl, H3⟩))
        go_roundw
        case rel => exact ⟨k + 1, by omega, by simp, H3⟩
        case measure => simp [intOf]; omega
      · obtain ⟨x, hx, hs⟩ := step_on (L := L) hl
        have P := hide (stepE (k := 3) HE2 (by omega) rfl (by decide) HR.out hs)
        clear HE HE2 HR hs
        by_cases l1 : 0 ≤ c
        · have l2 : ¬ c ≤ (k : Int) := fun q => hl ⟨l1, q⟩
          clear hl
          rcases hx with rfl | rfl | rfl
          · go_wp2_with (go_at_call 9; go_must ((with_reducible refine (Hid.out P).mono ?_); rintro e w3 ⟨rfl, H3⟩))
            go_roundw
            case rel => exact ⟨k + 1, by omega, by simp, H3⟩
            case measure => simp [intOf]; omega
          · go_wp2_with (go_at_call 9; go_must ((with_reducible refine (Hid.out P).mono ?_); rintro e w3 ⟨rfl, H3⟩))
            go_roundw
            case rel => exact ⟨k + 1, by omega, by simp, H3⟩
            case measure => simp [intOf]; omega
          · go_wp2_with (go_at_call 9; go_must ((with_reducible refine (Hid.out P).mono ?_); rintro e w3 ⟨rfl, H3⟩))
            go_roundw
            case rel => exact ⟨k + 1, by omega, by simp, H3⟩
            case measure => simp [intOf]; omega
        · clear hl
          rcases hx with rfl | rfl | rfl
          · go_wp2_with (go_at_call 9; go_must ((with_reducible refine (Hid.out P).mono ?_); rintro e w3 ⟨rfl, H3⟩))
            go_roundw
            case rel => exact ⟨k + 1, by omega, by simp, H3⟩
            case measure => simp [intOf]; omega
          · go_wp2_with (go_at_call 9; go_must ((with_reducible refine (Hid.out P).mono ?_); rintro e w3 ⟨rfl, H3⟩))
            go_roundw
            case rel => exact ⟨k + 1, by omega, by simp, H3⟩
            case measure => simp [intOf]; omega
          · go_wp2_with (go_at_call 9; go_must ((with_reducible refine (Hid.out P).mono ?_); rintro e w3 ⟨rfl, H3⟩))
            go_roundw
            case rel => exact ⟨k + 1, by omega, by simp, H3⟩
            case measure => simp [intOf]; omega
    · obtain rfl : k = m := by omega
      have hge : ¬ (k : Int) < k := by omega
      clear c1 c2
      obtain ⟨z, hz⟩ : ∃ z : Nat, z = nC c k := ⟨_, rfl⟩
      obtain ⟨u, hu⟩ : ∃ u : Nat, u = min (nC c k) L.length := ⟨_, rfl⟩
      have C1 := hide (stepsE HE (z := (z : Int)) (by rw [hz]))
      have C2 := hide (usedE HE (z := (u : Int)) (by rw [hu]))
      rw [← hz, ← HL.out] at hu
      have HB := hide HE.out.below
      clear HE
      unfold nC at hz
      by_cases h0 : 0 ≤ c
      · rw [if_pos h0] at hz
        obtain ⟨cn, rfl⟩ : ∃ cn : Nat, c = (cn : Int) := ⟨c.toNat, by omega⟩
        simp at hz
        by_cases d1 : cn < k
        · have d2 : (cn : Int) < (k : Int) := by omega
          have e1 : min (k : Int) (cn : Int) = (cn : Int) := by omega
          obtain rfl : z = cn := by omega
          by_cases d3 : n < z
          · have d4 : (n : Int) < (z : Int) := by omega
            have e2 : min (z : Int) (n : Int) = (n : Int) := by omega
            obtain rfl : u = n := by omega
            clear hu HL hz hk h1 h2
            go_wp2_with (first
              | (go_at_call 11; go_must ((with_reducible refine (Hid.out C1).mono ?_); rintro e w5 ⟨rfl, rfl⟩))
              | (go_at_call 12; go_must ((with_reducible refine (Hid.out C2).mono ?_); rintro e w6 ⟨rfl, q6, rfl⟩))
              | (go_at_call 7; go_must ((with_reducible refine (works9_any _).mono ?_); rintro e w7 ⟨rfl, hb7⟩)))
            go_ret
            exact ⟨rfl, HB.out.trans (((below_of_drewN q6).trans hb7).mono HB.out.size)⟩
          · have d4 : ¬ (n : Int) < (z : Int) := by omega
            have e2 : min (z : Int) (n : Int) = (z : Int) := by omega
            obtain rfl : u = z := by omega
            clear hu HL hz hk h1 h2
            go_wp2_with (first
              | (go_at_call 11; go_must ((with_reducible refine (Hid.out C1).mono ?_); rintro e w5 ⟨rfl, rfl⟩))
              | (go_at_call 12; go_must ((with_reducible refine (Hid.out C2).mono ?_); rintro e w6 ⟨rfl, q6, rfl⟩))
              | (go_at_call 7; go_must ((with_reducible refine (works9_any _).mono ?_); rintro e w7 ⟨rfl, hb7⟩)))
            go_ret
            exact ⟨rfl, HB.out.trans (((below_of_drewN q6).trans hb7).mono HB.out.size)⟩
        · have d2 : ¬ (cn : Int) < (k : Int) := by omega
          have e1 : min (k : Int) (cn : Int) = (k : Int) := by omega
          obtain rfl : k = z := by omega
          by_cases d3 : n < k
          · have d4 : (n : Int) < (k : Int) := by omega
            have e2 : min (k : Int) (n : Int) = (n : Int) := by omega
            obtain rfl : u = n := by omega
            clear hu HL hz hk h1 h2
            go_wp2_with (first
              | (go_at_call 11; go_must ((with_reducible refine (Hid.out C1).mono ?_); rintro e w5 ⟨rfl, rfl⟩))
              | (go_at_call 12; go_must ((with_reducible refine (Hid.out C2).mono ?_); rintro e w6 ⟨rfl, q6, rfl⟩))
              | (go_at_call 7; go_must ((with_reducible refine (works9_any _).mono ?_); rintro e w7 ⟨rfl, hb7⟩)))
            go_ret
            exact ⟨rfl, HB.out.trans (((below_of_drewN q6).trans hb7).mono HB.out.size)⟩
          · have d4 : ¬ (n : Int) < (k : Int) := by omega
            have e2 : min (k : Int) (n : Int) = (k : Int) := by omega
            obtain rfl : u = k := by omega
            clear hu HL hz hk h1 h2
            go_wp2_with (first
              | (go_at_call 11; go_must ((with_reducible refine (Hid.out C1).mono ?_); rintro e w5 ⟨rfl, rfl⟩))
              | (go_at_call 12; go_must ((with_reducible refine (Hid.out C2).mono ?_); rintro e w6 ⟨rfl, q6, rfl⟩))
              | (go_at_call 7; go_must ((with_reducible refine (works9_any _).mono ?_); rintro e w7 ⟨rfl, hb7⟩)))
            go_ret
            exact ⟨rfl, HB.out.trans (((below_of_drewN q6).trans hb7).mono HB.out.size)⟩
      · rw [if_neg h0] at hz
        obtain rfl : k = z := hz.symm
        by_cases d3 : n < k
        · have d4 : (n : Int) < (k : Int) := by omega
          have e2 : min (k : Int) (n : Int) = (n : Int) := by omega
          obtain rfl : u = n := by omega
          clear hu HL hz hk h1 h2
          go_wp2_with (first
            | (go_at_call 11; go_must ((with_reducible refine (Hid.out C1).mono ?_); rintro e w5 ⟨rfl, rfl⟩))
            | (go_at_call 12; go_must ((with_reducible refine (Hid.out C2).mono ?_); rintro e w6 ⟨rfl, q6, rfl⟩))
            | (go_at_call 7; go_must ((with_reducible refine (works9_any _).mono ?_); rintro e w7 ⟨rfl, hb7⟩)))
          go_ret
          exact ⟨rfl, HB.out.trans (((below_of_drewN q6).trans hb7).mono HB.out.size)⟩
        · have d4 : ¬ (n : Int) < (k : Int) := by omega
          have e2 : min (k : Int) (n : Int) = (k : Int) := by omega
          obtain rfl : u = k := by omega
          clear hu HL hz hk h1 h2
          go_wp2_with (first
            | (go_at_call 11; go_must ((with_reducible refine (Hid.out C1).mono ?_); rintro e w5 ⟨rfl, rfl⟩))
            | (go_at_call 12; go_must ((with_reducible refine (Hid.out C2).mono ?_); rintro e w6 ⟨rfl, q6, rfl⟩))
            | (go_at_call 7; go_must ((with_reducible refine (works9_any _).mono ?_); rintro e w7 ⟨rfl, hb7⟩)))
          go_ret
          exact ⟨rfl, HB.out.trans (((below_of_drewN q6).trans hb7).mono HB.out.size)⟩
end Go.Proofs.Ytjdcmeclmaljeaa.Walk
