/- The contract of the document's mayOp. -/
import Derived.Test.YtigmgkcojifbcaaEncMay
namespace Go.Proofs.Ytigmgkcojifbcaa.Hist
open Go.RowKit Go.Proofs.Ytigmgkcojifbcaa.Dig Go.Proofs.Ytigmgkcojifbcaa.Mem
set_option linter.unusedVariables false
set_option linter.unusedSimpArgs false

set_option maxHeartbeats 1000000 in
theorem rmayop_any (F : Nat → Prop) (o : OpM) (rd : Bool) (lv : Value) (w : World) (hrd : o.read = rd) (h : IntsAt F w lv o.list) (hl : o.list.length ≤ 1000000) :
    Calls Try.prog 27 #[.agg #[.bool rd, .int .i64 o.key, .int .i64 o.value, lv]] w fun e w' => e = .returned (.bool (mayOpB o)) ∧ Below w.heap.size w w' := by
  obtain ⟨a, c, rfl, _, _⟩ := h.shape
  have H := hide (h.keep ((Below.refl w.heap.size w).alloc (Nat.le_refl _) (.cells #[.bool rd, .int .i64 o.key, .int .i64 o.value, .slice a o.list.length c] 45)))
  have HB := hide ((Below.refl w.heap.size w).alloc (Nat.le_refl _) (.cells #[.bool rd, .int .i64 o.key, .int .i64 o.value, .slice a o.list.length c] 45))
  have hT : mayOpB o = if rd = true then mayB o.key && o.list.all mayB && o.value == 0 else mayB o.key && mayB o.value && o.list.length == 0 := by unfold mayOpB; rw [hrd]
  clear h hrd
  obtain ⟨b1, hb1⟩ : ∃ b, mayB o.key = b := ⟨_, rfl⟩
  have B1 := hide hb1
  cases b1 with
  | false =>
    have T : Hid (mayOpB o = false) := hide (by rw [hT, hb1]; cases rd <;> rfl)
    clear hT hb1
    go_enter Try.func27, Try.ntmps27
    go_wp2_with (first | (go_at_call 26; (with_reducible refine (rmay_any o.key _).mono ?_); rw [B1.out]; rintro e w1 ⟨rfl, hq⟩; replace hq := hq.symm; subst hq))
    go_ret
    exact ⟨by rw [T.out]; rfl, HB.out⟩
  | true =>
  cases rd with
  | false =>
    obtain ⟨b2, hb2⟩ : ∃ b, mayB o.value = b := ⟨_, rfl⟩
    have B2 := hide hb2
    cases b2 with
    | false =>
      have T : Hid (mayOpB o = false) := hide (by rw [hT, hb1, hb2]; rfl)
      clear hT hb1 hb2
      go_enter Try.func27, Try.ntmps27
      go_wp2_with (first | (go_at_call 26; (with_reducible refine (rmay_any o.key _).mono ?_); rw [B1.out]; rintro e w1 ⟨rfl, hq⟩; replace hq := hq.symm; subst hq) | (go_at_call 26; (with_reducible refine (rmay_any o.value _).mono ?_); rw [B2.out]; rintro e w1 ⟨rfl, hq⟩; replace hq := hq.symm; subst hq))
      go_ret
      exact ⟨by rw [T.out]; rfl, HB.out⟩
    | true =>
      have T : Hid (mayOpB o = ((o.list.length : Int) == 0)) := hide (by rw [hT, hb1, hb2, Bool.eq_iff_iff]; simp)
      clear hT hb1 hb2
      go_enter Try.func27, Try.ntmps27
      go_wp2_with (first | (go_at_call 26; (with_reducible refine (rmay_any o.key _).mono ?_); rw [B1.out]; rintro e w1 ⟨rfl, hq⟩; replace hq := hq.symm; subst hq) | (go_at_call 26; (with_reducible refine (rmay_any o.value _).mono ?_); rw [B2.out]; rintro e w1 ⟨rfl, hq⟩; replace hq := hq.symm; subst hq))
      go_ret
      exact ⟨by rw [T.out]; rfl, HB.out⟩
  | true =>
    have hT' : mayOpB o = (o.list.all mayB && o.value == 0) := by rw [hT, hb1]; simp
    have HT := hide hT'
    clear hT hb1 hT'
    go_enter Try.func27, Try.ntmps27
    go_wp2_with (first | (go_at_call 26; (with_reducible refine (rmay_any o.key _).mono ?_); rw [B1.out]; rintro e w1 ⟨rfl, hq⟩; replace hq := hq.symm; subst hq))
    go_loop [3] (fun i => ∃ k : Nat, k ≤ o.list.length ∧ i = .int .i64 (k : Int) ∧ Hid ((o.list.take k).all mayB = true)) (fun i => o.list.length - (intOf i).toNat)
    case atStart => exact ⟨0, by omega, rfl, hide rfl⟩
    case round =>
      obtain ⟨k, hk, rfl, hj⟩ := hrel
      by_cases hlt : k < o.list.length
      · obtain ⟨b, off, rfl, hc, hw⟩ := ints_at H.out hl hlt
        obtain ⟨b2, hb2⟩ : ∃ b, mayB o.list[k] = b := ⟨_, rfl⟩
        have B2 := hide hb2
        cases b2 with
        | false =>
          have T : Hid (mayOpB o = false) := hide (by rw [HT.out, all_not hlt hb2]; rfl)
          clear hb2
          go_wp2_with (first | (go_at_call 26; (with_reducible refine (rmay_any o.list[k] _).mono ?_); rw [B2.out]; rintro e w1 ⟨rfl, hq⟩; replace hq := hq.symm; subst hq))
          go_ret
          exact ⟨by rw [T.out]; rfl, HB.out⟩
        | true =>
          have T : Hid ((o.list.take (k + 1)).all mayB = true) := hide (by rw [all_take hlt, hj.out, hb2]; rfl)
          clear hb2
          go_wp2_with (first | (go_at_call 26; (with_reducible refine (rmay_any o.list[k] _).mono ?_); rw [B2.out]; rintro e w1 ⟨rfl, hq⟩; replace hq := hq.symm; subst hq))
          go_round
          case rel => exact ⟨k + 1, by omega, by go_num, T⟩
          case measure => simp [intOf]; omega
      · have T : Hid (mayOpB o = (o.value == 0)) := hide (by rw [HT.out, all_done hlt hj.out]; rfl)
        go_wp2
        go_ret
        exact ⟨by rw [T.out]; rfl, HB.out⟩
end Go.Proofs.Ytigmgkcojifbcaa.Hist
