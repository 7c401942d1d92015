/- The document's Same of two rows of numbers: whether they are one list. -/
import Derived.Test.YtbljbhgelcakdaaDoorBitRow
namespace Go.Proofs.YtbljbhgelcakdaaDoor.Bit
open Go.RowKit Go.Proofs.YtbljbhgelcakdaaDoor.Dig Go.Proofs.YtbljbhgelcakdaaDoor.Mem
set_option linter.unusedVariables false
set_option linter.unusedSimpArgs false

theorem ext_getI {a b : List Int} (hl : a.length = b.length) (h : ∀ k, k < a.length → a.getD k 0 = b.getD k 0) : a = b := by
  apply List.ext_getElem hl
  intro i h1 h2
  have := h i h1
  rw [List.getD_eq_getElem?_getD, List.getD_eq_getElem?_getD, List.getElem?_eq_getElem h1, List.getElem?_eq_getElem h2] at this
  exact this
set_option maxHeartbeats 1000000 in
theorem same_is (x y : Option Addr) (c d : Nat) (a b : List Int) (w : World) (ha : RowI w x c a) (hb : RowI w y d b) :
    Calls Tryd.prog 13 #[.slice x a.length c, .slice y b.length d] w fun e w' => e = .returned (.bool (decide (a = b))) ∧ Below w.heap.size w w' := by
  have l1 := ha.rd.le
  have l2 := hb.rd.le
  by_cases hl : a.length = b.length
  · have HA := hide ha
    have HB := hide hb
    have HX := hide (ext_getI hl)
    obtain ⟨n, hn⟩ : ∃ n, n = a.length := ⟨_, rfl⟩
    have hnb : b.length = n := by rw [hn]; omega
    have HN := hide hn
    have HNB := hide hnb
    rw [← hn, hnb]
    rw [← hn] at l1 HX
    have g0 : ((n : Int) != n) = false := by simp
    clear ha hb hl hn hnb l2
    go_enter Tryd.func13, Tryd.ntmps13
    go_wp2
    go_loopw [5] (fun i wr => (∃ k : Nat, k ≤ n ∧ i = .int .i64 (k : Int) ∧ Hid (∀ j, j < k → a.getD j 0 = b.getD j 0)) ∧ Hid (Below w.heap.size w wr)) (fun i _ => n - (intOf i).toNat)
    case atStart => exact ⟨⟨0, by omega, rfl, fun j hj => by omega⟩, Below.refl _ _⟩
    case round =>
      obtain ⟨⟨k, hk, rfl, hx⟩, hbel⟩ := hrel
      by_cases hlt : k < n
      · obtain ⟨b1, o1, rfl, hc1⟩ := (HA.out.keep hbel.out).at (show k < a.length by rw [← HN.out]; exact hlt)
        obtain ⟨b2, o2, rfl, hc2⟩ := (HB.out.keep hbel.out).at (show k < b.length by rw [HNB.out]; exact hlt)
        obtain ⟨p, hp⟩ : ∃ p, p = a.getD k 0 := ⟨_, rfl⟩
        obtain ⟨q, hq⟩ : ∃ q, q = b.getD k 0 := ⟨_, rfl⟩
        rw [← hp] at hc1
        rw [← hq] at hc2
        have HP := hide hp
        have HQ := hide hq
        clear hp hq
        by_cases hpq : p = q
        · have g1 : (p != q) = false := by simp [hpq]
          have HE := hide hpq
          clear hpq
          go_wp2
          go_region
          all_goals
            go_wp2
            go_roundw
            case rel => exact ⟨⟨k + 1, by omega, by go_num, fun j hj => by
              by_cases e : j = k
              · subst e; rw [← HP.out, ← HQ.out]; exact HE.out
              · exact hx.out j (by omega)⟩, by (repeat (first | exact hbel.out | apply Below.drew))⟩
            case measure => simp [intOf]; omega
        · have g1 : (p != q) = true := by simp [hpq]
          have HE : Hid (decide (a = b) = false) := by
            show _ = _
            rw [decide_eq_false_iff_not]
            intro e
            exact hpq (by rw [HP.out, HQ.out, e])
          clear hpq
          go_wp2
          go_region
          all_goals
            go_wp2
            go_ret
            rw [HE.out]
            exact ⟨rfl, by (repeat (first | exact hbel.out | apply Below.drew))⟩
      · obtain rfl : n = k := by omega
        have HE : Hid (decide (a = b) = true) := hide (decide_eq_true (HX.out hx.out))
        have hge : ¬ (n : Int) < n := by omega
        go_wp2
        go_ret
        rw [HE.out]
        exact ⟨rfl, hbel.out⟩
  · have HE : Hid (decide (a = b) = false) := by
      show _ = _
      rw [decide_eq_false_iff_not]
      intro e
      exact hl (by rw [e])
    obtain ⟨n, hn⟩ : ∃ n, n = a.length := ⟨_, rfl⟩
    obtain ⟨m, hm⟩ : ∃ m, m = b.length := ⟨_, rfl⟩
    rw [← hn, ← hm] at hl ⊢
    have g0 : ((n : Int) != m) = true := by simp; omega
    clear ha hb hl hn hm l1 l2
    go_enter Tryd.func13, Tryd.ntmps13
    go_wp2
    go_ret
    rw [HE.out]
    exact ⟨rfl, Below.refl _ _⟩
end Go.Proofs.YtbljbhgelcakdaaDoor.Bit
