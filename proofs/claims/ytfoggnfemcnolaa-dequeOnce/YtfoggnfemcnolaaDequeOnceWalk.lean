/- DequeOnce, walked. -/
import Derived.Test.YtfoggnfemcnolaaDqWorks
import Derived.Test.YtfoggnfemcnolaaDqsEnv
import Derived.Test.YtfoggnfemcnolaaStrFrame
namespace Go.Proofs.Ytfoggnfemcnolaa.Walk
open Go.RowKit Go.Proofs.Ytfoggnfemcnolaa.Dig Go.Proofs.Ytfoggnfemcnolaa.Mem Go.Proofs.Ytfoggnfemcnolaa.DqS
set_option linter.unusedVariables false
set_option linter.unusedSimpArgs false

theorem once_no (w : World) (a : Option Addr) (n c : Nat) (t : Int) (h : 200 < n) (hn : n ≤ 9223372036854775807) : Calls Try.prog 4 #[.slice a n c, .int .u8 t] w fun e w' => e = .returned (.bool true) ∧ Below w.heap.size w w' := by
  have g0 : (200 : Int) < n := by omega
  go_enter Try.func4, Try.ntmps4
  go_wp2_with (first | (go_at_call 7; go_must ((with_reducible refine (DqI.works7_any _).mono ?_); rintro e w1 ⟨rfl, hb1⟩)))
  go_ret
  exact ⟨rfl, hb1⟩
/-- What is between two places of a list. -/
def mid (L : List (List UInt8)) (lo hi : Nat) : List (List UInt8) := (L.take hi).drop lo
theorem mid_last {L : List (List UInt8)} {lo hi : Nat} (h1 : lo ≤ hi) (h2 : hi < L.length) : mid L lo (hi + 1) = mid L lo hi ++ [L.getD hi []] := by
  unfold mid
  rw [List.take_add_one, List.getElem?_eq_getElem h2, List.drop_append_of_le_length (by rw [List.length_take]; omega), List.getD_eq_getElem?_getD, List.getElem?_eq_getElem h2]
  rfl
theorem mid_first {L : List (List UInt8)} {lo hi : Nat} (h1 : lo < hi) (h2 : hi ≤ L.length) : mid L lo hi = L.getD lo [] :: mid L (lo + 1) hi := by
  unfold mid
  rw [List.drop_eq_getElem_cons (by rw [List.length_take]; omega), List.getD_eq_getElem?_getD, List.getElem?_eq_getElem (by omega)]
  simp
theorem mid_none (L : List (List UInt8)) (lo : Nat) : mid L lo lo = [] := by
  unfold mid
  apply List.eq_nil_of_length_eq_zero
  rw [List.length_drop, List.length_take]
  omega
theorem mid_all (L : List (List UInt8)) : mid L 0 L.length = L := by simp [mid]
def OnceR1 (w : World) (L : List (List UInt8)) (n : Nat) (iv : Value) (wr : World) : Prop := ∃ k : Nat, k ≤ n ∧ iv = .int .i64 (k : Int) ∧ Hid (Env w w.heap.size (L.take k) [] [] wr)
def OnceR2 (w : World) (L : List (List UInt8)) (n : Nat) (lo hi iv : Value) (wr : World) : Prop := ∃ p q k : Nat, lo = .int .i64 (p : Int) ∧ hi = .int .i64 (q : Int) ∧ iv = .int .i64 (k : Int) ∧ q + k = n + p ∧ p ≤ q ∧ q ≤ n ∧ Hid (Env w w.heap.size (mid L p q) [] [] wr)
set_option maxHeartbeats 2000000 in
set_option maxRecDepth 20000 in
theorem walk_dequeOnce (w : World) (a : Option Addr) (n c : Nat) (L : List (List UInt8)) (ha : Frame.IsStrs w a n c L) (t : Int) (ht : (Lit.int .u8 t).wf = true) :
    Calls Try.prog 4 #[.slice a n c, .int .u8 t] w fun e w' => e = .returned (.bool true) ∧ Below w.heap.size w w' := by
  obtain ⟨q1, q2, q3⟩ := ha.cap
  by_cases hbig : 200 < n
  · exact once_no w a n c t hbig (by omega)
  have hr := hide (ha.rows (by omega))
  have HN := hide q3
  have g0 : ¬ (200 : Int) < n := by omega
  have hn2 : n ≤ 200 := by omega
  have R0 : Hid (OnceR1 w L n (.int .i64 0) (w.alloc (.cells #[.slice none 0 0, .int .i64 0, .int .i64 0] 42))) := ⟨0, Nat.zero_le _, rfl, hide (Env.new w 42 rfl w (Below.refl _ _) rfl)⟩
  have hbt := bounds_u8 ht
  obtain ⟨t1, t2⟩ := hbt
  clear ha q1 q2 q3 hbig ht
  go_enter Try.func4, Try.ntmps4
  go_wp2
  generalize (w.alloc (.cells #[.slice none 0 0, .int .i64 0, .int .i64 0] 42)) = W0 at *
  go_loopw [6] (fun i wr => OnceR1 w L n i wr) (fun i _ => n - (intOf i).toNat)
  case atStart => exact R0.out
  case round =>
    obtain ⟨k, hk, rfl, hE⟩ := hrel
    by_cases hlt : k < n
    · obtain ⟨b1, o1, rfl, hc⟩ := (hr.out.keep hE.out.below).at (show k < L.length by rw [← HN.out]; exact hlt)
      have P := hide (pushE (L.getD k []) hE (by rw [List.length_take]; omega))
      have HT : Hid (L.take k ++ [L.getD k []] = L.take (k + 1)) := hide (by
        have : k < L.length := by rw [← HN.out]; exact hlt
        rw [List.take_add_one, List.getElem?_eq_getElem this, List.getD_eq_getElem?_getD, List.getElem?_eq_getElem this]
        rfl)
      rw [HT.out] at P
      obtain ⟨x, hx⟩ : ∃ x, x = L.getD k [] := ⟨_, rfl⟩
      rw [← hx] at P hc
      have hli : (k : Int) < n := by omega
      clear hx HT
      go_wp2_with (go_at_call 16; go_must ((with_reducible refine (Hid.out P).mono ?_); rintro e w1 ⟨rfl, H1⟩))
      go_roundw
      case rel => exact ⟨k + 1, by omega, by simp, H1⟩
      case measure => simp [intOf]; omega
    · obtain rfl : k = n := by omega
      have hge : ¬ (k : Int) < k := by omega
      have R1 : Hid (OnceR2 w L k (.int .i64 0) (.int .i64 (k : Int)) (.int .i64 0) wr) := ⟨0, k, 0, rfl, rfl, rfl, by omega, by omega, by omega, by
        have e : mid L 0 k = L.take k := by rw [HN.out, mid_all, List.take_length]
        rw [e]; exact hE⟩
      clear hE R0
      go_wp2
      go_loopw [7, 8, 9] (fun lo hi i wr => OnceR2 w L k lo hi i wr) (fun _ _ i _ => k - (intOf i).toNat)
      case atStart => exact R1.out
      case round =>
        obtain ⟨p, q, j, rfl, rfl, rfl, hs, hpq, hq, hE⟩ := hrel
        clear R1
        by_cases hlt : j < k
        · have hli : (j : Int) < k := by omega
          obtain ⟨h, rfl⟩ : ∃ h, q = h + 1 := ⟨q - 1, by omega⟩
          obtain ⟨b1, o1, rfl, hch⟩ := hr.out.at (show h < L.length by rw [← HN.out]; omega)
          obtain ⟨b2, o2, eb, hcp⟩ := hr.out.at (show p < L.length by rw [← HN.out]; omega)
          cases eb
          have P := hide (popE (x := L.getD h []) (l' := mid L p h) hE (mid_last (by omega) (by rw [← HN.out]; omega)))
          have S := hide (stealE (x := L.getD p []) (l' := mid L (p + 1) (h + 1)) hE (mid_first (by omega) (by rw [← HN.out]; omega)))
          obtain ⟨x, hx⟩ : ∃ x, x = L.getD h [] := ⟨_, rfl⟩
          obtain ⟨y, hy⟩ : ∃ y, y = L.getD p [] := ⟨_, rfl⟩
          rw [← hx] at P hch
          rw [← hy] at S hcp
          have hl1 := lt_of_cell hch
          have HC : Hid (∀ w1 : World, Below w.heap.size w w1 → w1.cell? ⟨b1, o1 + h, none⟩ = some (.string ⟨x.toArray⟩) ∧ w1.cell? ⟨b1, o1 + p, none⟩ = some (.string ⟨y.toArray⟩)) := hide (fun w1 hb => ⟨(hb.cell (p := ⟨b1, o1 + h, none⟩) hl1).trans hch, (hb.cell (p := ⟨b1, o1 + p, none⟩) hl1).trans hcp⟩)
          have hhk : (h : Int) < k := by omega
          have hpk : (p : Int) < k := by omega
          clear hx hy hch hcp hE
          go_wp2_with (first
            | (go_at_call 17; go_must ((with_reducible refine (Hid.out P).mono ?_); rintro e w1 ⟨rfl, H1⟩; obtain ⟨c1, c2⟩ := HC.out w1 H1.out.below))
            | (go_at_call 18; go_must ((with_reducible refine (Hid.out S).mono ?_); rintro e w1 ⟨rfl, H1⟩; obtain ⟨c1, c2⟩ := HC.out w1 H1.out.below)))
          · go_roundw
            case rel => exact ⟨p, h, j + 1, rfl, by simp, by simp, by omega, by omega, by omega, H1⟩
            case measure => simp [intOf]; omega
          · go_roundw
            case rel => exact ⟨p + 1, h + 1, j + 1, by simp, by simp, by simp, by omega, by omega, by omega, H1⟩
            case measure => simp [intOf]; omega
        · have hge2 : ¬ (j : Int) < k := by omega
          obtain rfl : p = q := by omega
          have HE : Hid (Env w w.heap.size [] [] [] wr) := by rw [mid_none] at hE; exact hE
          clear hE
          go_wp2_with (first
            | (go_at_call 17; go_must ((with_reducible refine (popN HE rfl).mono ?_); rintro e w1 ⟨rfl, H1⟩))
            | (go_at_call 18; go_must ((with_reducible refine (stealN H1 rfl).mono ?_); rintro e w2 ⟨rfl, H2⟩))
            | (go_at_call 19; go_must ((refine (lenE (n := 0) H2 rfl).mono ?_); rintro e w3 ⟨rfl, H3⟩))
            | (go_at_call 7; go_must ((with_reducible refine (DqI.works7_any _).mono ?_); rintro e w4 ⟨rfl, hb4⟩; have HB4 := hide hb4; clear hb4)))
          go_ret
          exact ⟨rfl, H3.out.below.trans (HB4.out.mono H3.out.below.size)⟩
end Go.Proofs.Ytfoggnfemcnolaa.Walk
