/- The document's Few. -/
import Derived.Test.YtigmgkcojifbcaaHistOps
namespace Go.Proofs.Ytigmgkcojifbcaa.Hist
open Go.RowKit Go.Proofs.Ytigmgkcojifbcaa.Dig Go.Proofs.Ytigmgkcojifbcaa.Mem
set_option linter.unusedVariables false
set_option linter.unusedSimpArgs false

def Lists (m : Nat) (ts : List TxnM) : Prop := ∀ t ∈ ts, ∀ o ∈ t.ops, o.list.length ≤ m
def FewRel (ts : List TxnM) (n i : Value) : Prop := ∃ k : Nat, k ≤ ts.length ∧ i = .int .i64 (k : Int) ∧ n = .int .i64 (opsN (ts.take k) : Int) ∧ opsN (ts.take k) ≤ 100 ∧ Hid (Lists 100 (ts.take k))
theorem FewRel.next {ts : List TxnM} {k : Nat} {n i : Value} (hk : k < ts.length) (h : Hid (Lists 100 (ts.take k))) (hl : ∀ o ∈ ts[k].ops, o.list.length ≤ 100) (hn : opsN (ts.take k) + ts[k].ops.length ≤ 100)
    (e1 : i = .int .i64 ((k + 1 : Nat) : Int)) (e2 : n = .int .i64 ((opsN (ts.take k) + ts[k].ops.length : Nat) : Int)) : FewRel ts n i := by
  refine ⟨k + 1, by omega, e1, by rw [opsN_take hk]; exact e2, by rw [opsN_take hk]; exact hn, hide ?_⟩
  intro t ht
  rw [List.take_succ_eq_append_getElem hk] at ht
  rcases List.mem_append.1 ht with q | q
  · exact h.out t q
  · simp at q; subst q; exact hl
def FewPost (ts : List TxnM) (w : World) (e : Ending) (w' : World) : Prop := ∃ r, e = .returned (.bool r) ∧ (r = true → ts.length ≤ 40 ∧ opsN ts ≤ 100 ∧ Lists 100 ts) ∧ Below w.heap.size w w'
theorem rfew_any (F : Nat → Prop) (tv : Value) (ts : List TxnM) (w : World) (h : TxnsAt F w tv ts) :
    Calls Try.prog 7 #[.agg #[tv], .int .i64 40, .int .i64 100] w (FewPost ts w) := by
  obtain ⟨a, c, rfl, hc1, hc2⟩ := h.shape
  unfold maxLen at hc2
  have H : Hid (TxnsAt F w (.slice a ts.length c) ts) := h
  clear h
  by_cases h40 : ts.length ≤ 40
  rotate_left
  · have h40' : (40 : Int) < (ts.length : Int) := by omega
    go_enter Try.func7, Try.ntmps7
    go_wp2
    go_ret
    exact ⟨false, rfl, by simp, (Below.refl _ _).alloc (Nat.le_refl _) _⟩
  have h40' : ¬ (40 : Int) < (ts.length : Int) := by omega
  go_enter Try.func7, Try.ntmps7
  go_wp2
  go_loop [7, 8] (fun n i => FewRel ts n i) (fun _ i => ts.length - (intOf i).toNat)
  case atStart => exact ⟨0, by omega, rfl, rfl, by simp [opsN], hide (by intro t ht; simp at ht)⟩
  case round =>
    obtain ⟨k, hk, rfl, rfl, hn, hL⟩ := hrel
    by_cases hlt : k < ts.length
    · obtain ⟨b1, o1, l1, q1, rfl, _, hb1, c0, c1, c2, hi1, _⟩ := H.out.at hlt
      obtain ⟨_, _, e, g1, g2⟩ := hi1.shape
      simp at e
      obtain ⟨rfl, rfl⟩ := e
      unfold maxLen at g2
      have HO : Hid (OpsAt F w (.slice l1 ts[k].ops.length q1) ts[k].ops) := hi1
      clear hi1
      by_cases h2 : opsN (ts.take k) + ts[k].ops.length ≤ 100
      rotate_left
      · have h2' : (100 : Int) - (opsN (ts.take k) : Int) < (ts[k].ops.length : Int) := by omega
        clear h2
        go_wp2
        go_ret
        exact ⟨false, rfl, by simp, (Below.refl _ _).alloc (Nat.le_refl _) _⟩
      have h2' : ¬ (100 : Int) - (opsN (ts.take k) : Int) < (ts[k].ops.length : Int) := by omega
      go_wp2
      go_loop [9] (fun i => ∃ j : Nat, j ≤ ts[k].ops.length ∧ i = .int .i64 (j : Int) ∧ Hid (∀ o ∈ ts[k].ops.take j, o.list.length ≤ 100)) (fun i => ts[k].ops.length - (intOf i).toNat)
      case atStart => exact ⟨0, by omega, rfl, hide (by simp)⟩
      case round =>
        obtain ⟨j, hj, rfl, hl⟩ := hrel
        by_cases hlt2 : j < ts[k].ops.length
        · obtain ⟨b3, o3, l3, q3, rfl, _, hb3, e0, e1, e2, e3, hi3, _⟩ := HO.out.at hlt2
          obtain ⟨_, _, e, g3, g4⟩ := hi3.shape
          simp at e
          obtain ⟨rfl, rfl⟩ := e
          unfold maxLen at g4
          clear hi3
          by_cases h3 : ts[k].ops[j].list.length ≤ 100
          · have h3' : ¬ (100 : Int) < (ts[k].ops[j].list.length : Int) := by omega
            have HN : Hid (∀ o ∈ ts[k].ops.take (j + 1), o.list.length ≤ 100) := hide (by
              intro o ho
              rw [List.take_succ_eq_append_getElem hlt2] at ho
              rcases List.mem_append.1 ho with q | q
              · exact hl.out o q
              · simp at q; subst q; exact h3)
            go_wp2
            go_round
            case rel => exact ⟨j + 1, by omega, by go_num, HN⟩
            case measure => simp [intOf]; omega
          · have h3' : (100 : Int) < (ts[k].ops[j].list.length : Int) := by omega
            go_wp2
            go_ret
            exact ⟨false, rfl, by simp, (Below.refl _ _).alloc (Nat.le_refl _) _⟩
        · have HA : Hid (∀ o ∈ ts[k].ops, o.list.length ≤ 100) := hide (by
            have q := hl.out
            rwa [List.take_of_length_le (by omega)] at q)
          go_wp2
          go_round
          case rel => exact FewRel.next hlt hL HA.out h2 (by go_num) (by go_num)
          case measure => simp [intOf]; omega
    · have HA : Hid (ts.length ≤ 40 ∧ opsN ts ≤ 100 ∧ Lists 100 ts) := hide (by
        have q := hL.out
        rw [List.take_of_length_le (by omega)] at q hn
        exact ⟨h40, hn, q⟩)
      go_wp2
      go_ret
      exact ⟨true, rfl, fun _ => HA.out, (Below.refl _ _).alloc (Nat.le_refl _) _⟩
end Go.Proofs.Ytigmgkcojifbcaa.Hist
