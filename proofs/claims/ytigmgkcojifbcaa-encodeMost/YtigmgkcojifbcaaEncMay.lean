/- Contracts of mayBe and numbersSize, and of the document's may and number. -/
import Derived.Test.YtigmgkcojifbcaaHistOps
import Derived.Test.YtigmgkcojifbcaaEncChk
import Derived.Test.YtigmgkcojifbcaaDigPrint
import Derived.Deep.DeepMust
namespace Go.Proofs.Ytigmgkcojifbcaa.Hist
open Go.RowKit Go.Proofs.Ytigmgkcojifbcaa.Dig Go.Proofs.Ytigmgkcojifbcaa.Mem
set_option linter.unusedVariables false
set_option linter.unusedSimpArgs false

theorem all_take {α : Type} {p : α → Bool} {l : List α} {k : Nat} (h : k < l.length) : (l.take (k + 1)).all p = ((l.take k).all p && p l[k]) := by
  rw [List.take_succ_eq_append_getElem h, List.all_append]; simp
theorem all_not {α : Type} {p : α → Bool} {l : List α} {k : Nat} (h : k < l.length) (hp : p l[k] = false) : l.all p = false := by
  rw [Bool.eq_false_iff]
  intro q
  have := List.all_eq_true.1 q _ (List.getElem_mem h)
  rw [hp] at this; cases this
theorem all_done {α : Type} {p : α → Bool} {l : List α} {k : Nat} (hk : ¬ k < l.length) (h : (l.take k).all p = true) : l.all p = true := by
  rwa [List.take_of_length_le (by omega)] at h
theorem ints_at {F : Nat → Prop} {w : World} {a : Option Addr} {cap : Nat} {l : List Int} (h : IntsAt F w (.slice a l.length cap) l) (hl : l.length ≤ 1000000) {k : Nat} (hk : k < l.length) :
    ∃ b off, a = some ⟨b, off, none⟩ ∧ w.cell? ⟨b, off + k, none⟩ = some (.int .i64 l[k]) ∧ (Lit.int .i64 l[k]).wf = true := by
  obtain ⟨a', cap', e, _, hr⟩ := h.rd (by omega)
  simp at e
  obtain ⟨rfl, rfl⟩ := e
  obtain ⟨b, off, e1, e2, e3⟩ := hr.2 k hk
  have e : l.getD k 0 = l[k] := by simp [List.getD_eq_getElem?_getD, List.getElem?_eq_getElem hk]
  exact ⟨b, off, e1, by rw [← e]; exact e2, by rw [← e]; exact e3⟩
theorem maybe_any (F : Nat → Prop) (v : Value) (l : List Int) (w : World) (h : IntsAt F w v l) (hl : l.length ≤ 1000000) :
    Calls Try.prog 41 #[v] w fun e w' => e = .returned (.bool (l.all mayB)) ∧ w' = w := by
  obtain ⟨a, c, rfl, _, _⟩ := h.shape
  have H := hide h
  clear h
  go_enter Try.func41, Try.ntmps41
  go_wp2
  go_loop [7] (fun i => ∃ k : Nat, k ≤ l.length ∧ i = .int .i64 (k : Int) ∧ Hid ((l.take k).all mayB = true)) (fun i => l.length - (intOf i).toNat)
  case atStart => exact ⟨0, by omega, rfl, hide rfl⟩
  case round =>
    obtain ⟨k, hk, rfl, hj⟩ := hrel
    by_cases hlt : k < l.length
    · obtain ⟨b, off, rfl, hc, hw⟩ := ints_at H.out hl hlt
      by_cases h1 : l[k] < 0
      · have T : Hid (l.all mayB = false) := hide (all_not hlt (mayB_no.2 (by unfold mayN; omega)))
        go_wp2
        go_ret
        exact ⟨by rw [T.out]; rfl, rfl⟩
      by_cases h2 : 2147483647 < l[k]
      · have T : Hid (l.all mayB = false) := hide (all_not hlt (mayB_no.2 (by unfold mayN; omega)))
        go_wp2
        go_ret
        exact ⟨by rw [T.out]; rfl, rfl⟩
      · have T : Hid ((l.take (k + 1)).all mayB = true) := hide (by rw [all_take hlt, hj.out, mayB_iff.2 (by unfold mayN; omega)]; rfl)
        go_wp2
        go_round
        case rel => exact ⟨k + 1, by omega, by go_num, T⟩
        case measure => simp [intOf]; omega
    · have T : Hid (l.all mayB = true) := hide (all_done hlt hj.out)
      go_wp2
      go_ret
      exact ⟨by rw [T.out]; rfl, rfl⟩

/-- What numbers take of a line. -/
def sizeN (l : List Int) : Nat := (l.map fun x => (txt x.toNat).length + 1).sum
theorem sizeN_take {l : List Int} {k : Nat} (h : k < l.length) : sizeN (l.take (k + 1)) = sizeN (l.take k) + ((txt l[k].toNat).length + 1) := by
  unfold sizeN
  rw [List.take_succ_eq_append_getElem h, List.map_append, List.sum_append]; simp
theorem sizeN_le : ∀ l : List Int, sizeN l ≤ 11 * l.length
  | [] => by simp [sizeN]
  | x :: l => by
    have := sizeN_le l
    have := (txt_len x.toNat).2
    simp only [sizeN, List.map_cons, List.sum_cons, List.length_cons] at *
    omega
theorem nsize_any (F : Nat → Prop) (v : Value) (l : List Int) (w : World) (h : IntsAt F w v l) (hl : l.length ≤ 1000000) (hm : ∀ x ∈ l, mayN x) :
    Calls Try.prog 37 #[v] w fun e w' => e = .returned (.int .i64 (sizeN l : Int)) ∧ w' = w := by
  obtain ⟨a, c, rfl, _, _⟩ := h.shape
  have H := hide h
  have M := hide hm
  clear h hm
  go_enter Try.func37, Try.ntmps37
  go_wp2
  go_loop [3, 8] (fun n i => ∃ k : Nat, ∃ s : Nat, k ≤ l.length ∧ i = .int .i64 (k : Int) ∧ n = .int .i64 (s : Int) ∧ Hid (s = sizeN (l.take k)) ∧ s ≤ 11 * k) (fun _ i => l.length - (intOf i).toNat)
  case atStart => exact ⟨0, 0, by omega, rfl, rfl, hide (by simp [sizeN]), by omega⟩
  case round =>
    obtain ⟨k, s, hk, rfl, rfl, hj, hs⟩ := hrel
    by_cases hlt : k < l.length
    · obtain ⟨b, off, rfl, hc, hw⟩ := ints_at H.out hl hlt
      obtain ⟨m, hm⟩ : ∃ m : Nat, (txt l[k].toNat).length = m := ⟨_, rfl⟩
      have hm10 : m ≤ 10 := by have := (txt_len l[k].toNat).2; omega
      have HWD : Hid (widthS l[k] = (m : Int)) := hide (by
        have hx := M.out _ (List.getElem_mem hlt)
        unfold mayN at hx
        unfold widthS
        rw [if_pos hx, hm])
      have HB : Hid (l[k] < 9223372036854775808) := hide (by have hx := M.out _ (List.getElem_mem hlt); unfold mayN at hx; omega)
      have T : Hid (s + m + 1 = sizeN (l.take (k + 1))) := hide (by rw [sizeN_take hlt, hm, ← hj.out]; omega)
      clear hm
      go_wp2_with (go_at_call 53; go_must ((with_reducible refine (width_any _ _ HB.out).mono ?_); rw [HWD.out]; rintro e w' ⟨rfl, hq⟩; replace hq := hq.symm; subst hq))
      go_round
      case rel => exact ⟨k + 1, s + m + 1, by omega, by go_num, by go_num, T, by omega⟩
      case measure => simp [intOf]; omega
    · have e : k = l.length := by omega
      subst e
      have T : Hid (s = sizeN l) := hide (by rw [hj.out, List.take_length])
      go_wp2
      go_ret
      exact ⟨by rw [← T.out]; rfl, rfl⟩

theorem rmay_any (n : Int) (w : World) : Calls Try.prog 26 #[.int .i64 n] w fun e w' => e = .returned (.bool (mayB n)) ∧ w' = w := by
  by_cases h1 : 0 ≤ n
  · by_cases h2 : n ≤ 2147483647
    · have T : Hid (mayB n = true) := hide (mayB_iff.2 ⟨h1, h2⟩)
      go_enter Try.func26, Try.ntmps26
      go_wp2
      go_ret
      exact ⟨by rw [T.out]; rfl, rfl⟩
    · have T : Hid (mayB n = false) := hide (mayB_no.2 (fun q => h2 q.2))
      go_enter Try.func26, Try.ntmps26
      go_wp2
      go_ret
      exact ⟨by rw [T.out]; rfl, rfl⟩
  · have T : Hid (mayB n = false) := hide (mayB_no.2 (fun q => h1 q.1))
    go_enter Try.func26, Try.ntmps26
    go_wp2
    go_ret
    exact ⟨by rw [T.out]; rfl, rfl⟩
theorem print_may {n : Int} (h : mayN n) : printS n = txt n.toNat ∧ errS n = 0 := by
  obtain ⟨N, rfl⟩ : ∃ N : Nat, n = N := ⟨n.toNat, by unfold mayN at h; omega⟩
  have := printS_in (N := N) (by unfold mayN at h; omega)
  exact ⟨by rw [this.1]; simp, this.2⟩
theorem rnum_any (n : Int) (w : World) (h : mayN n) : Calls Try.prog 36 #[.int .i64 n] w fun e w' => e = .returned (.string ⟨(txt n.toNat).toArray⟩) ∧ w' = w := by
  have HP := hide (print_may h)
  clear h
  go_enter Try.func36, Try.ntmps36
  go_wp2_with (go_at_call 52; go_must ((with_reducible refine (rprint_any _ _).mono ?_); rw [HP.out.1, HP.out.2]; rintro e w' ⟨rfl, hq⟩; replace hq := hq.symm; subst hq))
  go_ret
  exact ⟨rfl, rfl⟩
theorem text_any (n : Int) (w : World) (h : mayN n) : Calls Try.prog 20 #[.int .i64 n] w fun e w' => e = .returned (.string ⟨(txt n.toNat).toArray⟩) ∧ Below w.heap.size w w' := by
  have HP := hide (print_may h)
  have HB : Hid (n < 9223372036854775808) := hide (by unfold mayN at h; omega)
  clear h
  go_enter Try.func20, Try.ntmps20
  go_wp2_with (go_at_call 40; go_must ((with_reducible refine (print_any _ _ HB.out).mono ?_); rw [HP.out.1, HP.out.2]; rintro e w' ⟨rfl, hb⟩))
  go_ret
  exact ⟨rfl, hb⟩
end Go.Proofs.Ytigmgkcojifbcaa.Hist
