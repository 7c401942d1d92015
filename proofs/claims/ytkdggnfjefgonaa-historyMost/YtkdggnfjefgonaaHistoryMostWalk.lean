/- HistoryMost, walked. -/
import Derived.Test.YtkdggnfjefgonaaHistWorks
import Derived.Test.YtkdggnfjefgonaaHistMostZ
import Derived.Test.YtkdggnfjefgonaaAppS
import Derived.Test.YtkdggnfjefgonaaFrame
import Derived.Deep.DeepMust
import Derived.Deep.DeepCutAuto
namespace Go.Proofs.Ytkdggnfjefgonaa.Walk
open Go.RowKit Go.Proofs.Ytkdggnfjefgonaa.Dig Go.Proofs.Ytkdggnfjefgonaa.Mem Go.Proofs.Ytkdggnfjefgonaa.Hist
set_option linter.unusedVariables false
set_option linter.unusedSimpArgs false

theorem Try.infoU8m : (Try.prog.info? 5).map (fun i => (i.zero, i.size, i.bytes)) = some (some (.int .u8 0), 1, 1) := by kernel_rfl
set_option maxHeartbeats 1000000 in
theorem most_long (w : World) (n m : Int) (h : 5000 < n ∨ 4096 < m) : Calls Try.prog 6 #[.int .u16 n, .int .u16 m] w fun e w' => e = .returned (.bool true) ∧ Below w.heap.size w w' := by
  by_cases h0 : 5000 < n
  · go_enter Try.func6, Try.ntmps6
    go_wp2_with (go_at_call 7; go_must ((with_reducible refine (works_any _).mono ?_); rintro e w1 ⟨rfl, hb1⟩))
    go_ret
    exact ⟨rfl, hb1⟩
  · have h1 : 4096 < m := h.resolve_left h0
    go_enter Try.func6, Try.ntmps6
    go_wp2_with (go_at_call 7; go_must ((with_reducible refine (works_any _).mono ?_); rintro e w1 ⟨rfl, hb1⟩))
    go_ret
    exact ⟨rfl, hb1⟩
def MostRel (w : World) (f : Nat → List Int) (n : Int) (v i : Value) (wr : World) : Prop :=
  ∃ k : Int, 0 ≤ k ∧ k ≤ n ∧ i = .int .i64 k ∧ Hid (OwnS 5 w.heap.size wr v (f k.toNat)) ∧ Hid (Below w.heap.size w wr)
theorem line_ns {j : Int} (h0 : 0 ≤ j) : tline j.toNat = [49 + j / 1000, 48 + j / 100 % 10, 48 + j / 10 % 10, 48 + j % 10] := by
  obtain ⟨n, rfl⟩ := Int.eq_ofNat_of_zero_le h0
  rw [Int.toNat_natCast]
  simp only [tline, List.cons.injEq, and_true]
  omega
theorem line_lit (w : World) (T : TypeId) (j : Int) (h0 : 0 ≤ j) (h1 : j ≤ 5000) : Rd .u8 (w.alloc (.cells #[.int .u8 (49 + j / 1000), .int .u8 (48 + j / 100 % 10), .int .u8 (48 + j / 10 % 10), .int .u8 (48 + j % 10)] T)) (some ⟨w.heap.size, 0, none⟩) 4 (fun i => [49 + j / 1000, 48 + j / 100 % 10, 48 + j / 10 % 10, 48 + j % 10].getD i 0) :=
  Rd.lit .u8 [49 + j / 1000, 48 + j / 100 % 10, 48 + j / 10 % 10, 48 + j % 10] w T (0, 0) _ rfl (by
    intro x hx
    simp at hx
    rcases hx with rfl | rfl | rfl | rfl <;> exact WalkArith.wf_u8 (by omega)) (by simp)
theorem tbs_next {j : Int} (h0 : 0 ≤ j) : tbs (j + 1).toNat = tbs j.toNat ++ [116, 32] ++ [49 + j / 1000, 48 + j / 100 % 10, 48 + j / 10 % 10, 48 + j % 10] ++ [32, 99, 10] := by
  rw [show (j + 1).toNat = j.toNat + 1 from by omega, tbs, line_ns h0]
theorem most_box {w w1 w2 : World} {o : Obj} (h1 : Below w.heap.size w w1) (h2 : Below w1.heap.size w1 w2) : Below w.heap.size w (w2.alloc o) := (h1.trans (h2.mono h1.size)).alloc (by have := h1.size; have := h2.size; omega) _
set_option maxRecDepth 20000 in
set_option maxHeartbeats 4000000 in
theorem most_walk (w : World) (n m : Int) (hn0 : 0 ≤ n) (hn : n ≤ 5000) (hm0 : 0 ≤ m) (hm : m ≤ 4096) : Calls Try.prog 6 #[.int .u16 n, .int .u16 m] w fun e w' => e = .returned (.bool true) ∧ Below w.heap.size w w' := by
  have hcv := conv_const
  have h1 : ¬ 5000 < n := by omega
  have h2 : ¬ 4096 < m := by omega
  obtain ⟨i0, hi, hz0, hz1, hz2⟩ := info_parts Try.infoU8m
  have HI0 : Hid (Try.prog.info? 5 = some i0 ∧ i0.zero = some (.int .u8 0) ∧ i0.size = 1 ∧ i0.bytes = 1) := ⟨hi, hz0, hz1, hz2⟩
  clear hi hz0 hz1 hz2
  have HO : ∀ (g : Nat), g = w.heap.size → Hid (OwnS 5 w.heap.size (w.alloc (.cells #[.int .u8 116, .int .u8 32, .int .u8 48, .int .u8 32, .int .u8 97, .int .u8 10] 5 (6, 7))) (.slice (some ⟨g, 0, none⟩) 6 6) (rbs 0)) := fun g hg => OwnS.full (l := rbs 0) hg (Nat.le_refl _)
  have HBo : Hid (Below w.heap.size w (w.alloc (.cells #[.int .u8 116, .int .u8 32, .int .u8 48, .int .u8 32, .int .u8 97, .int .u8 10] 5 (6, 7)))) := (Below.refl _ _).alloc (Nat.le_refl _) _
  go_enter Try.func6, Try.ntmps6
  go_wp2
  go_loopw [5, 6] (fun v i wr => MostRel w rbs n v i wr) (fun _ i _ => (n - intOf i).toNat)
  case atStart => exact ⟨0, by omega, hn0, rfl, HO _ rfl, HBo⟩
  case round =>
    obtain ⟨k, hk0, hk1, rfl, hown, hbel⟩ := hrel
    by_cases hlt : k < n
    · have hl := rbs_len k.toNat
      have hL : Hid ((rbs k.toNat).length + 4 ≤ 1000000) := hide (by omega)
      clear hl
      go_wp2_with (at_builtin; go_must (refine app_stringS rfl (.tmp 30) _ 22 9 rfl 5 i0 Try.underlying22 Try.underlying9 HI0.out.1 HI0.out.2.1 HI0.out.2.2.1 HI0.out.2.2.2 w.heap.size _ (rbs k.toNat) rfl hown.out [114, 32, 53, 10] rfl (by decide) hL.out hbel.out.size w.heap.size (Nat.le_refl _) hbel.out ?_; intro v1 w1 hown1 hbel1 hsz1; have HO1 : Hid (OwnS 5 w.heap.size w1 v1 (rbs (k + 1).toNat)) := hide (.inl (by rw [show (k + 1).toNat = k.toNat + 1 from by omega]; exact hown1)); have HB1 := hide hbel1; clear hown1 hbel1 hsz1))
      go_roundw
      case rel => exact ⟨k + 1, by omega, by omega, by first | rfl | go_num, HO1, HB1⟩
      case measure => simp [intOf]; omega
    · obtain rfl : k = n := by omega
      obtain ⟨a0, c0, l0, z0, rfl, hl0, hz0, hc0, hr0⟩ := hown.out.view (by rw [rbs_len]; omega) (rbs_wf _)
      have HR := hide hr0
      have HD := hide (decS_reads (rbs_z k.toNat) (n := k.toNat) (most := m.toNat) (by omega) (by omega))
      rw [← rbs_len, ← hl0.out, ← hz0.out, Int.toNat_of_nonneg hm0] at HD
      clear hr0
      by_cases hmk : m < k
      · have HD1 : Hid (decS z0 l0 m = ([], 3, 6 + 4 * m)) := by
          show _ = _
          rw [HD.out, if_pos (by omega)]
          simp only [Prod.mk.injEq, true_and]
          omega
        clear HD
        go_wp2_with (first | (go_at_call 8; go_must ((with_reducible refine (dec_at a0 l0 c0 z0 m _ HR.out hc0 HD1).mono ?_); rintro e' w2 ⟨ta, tcap, rfl, -, hb2, -⟩; have HB2 : Hid (Below w.heap.size w (w2.alloc (.cells #[.slice ta 0 tcap] 26))) := hide (most_box hbel.out hb2.out))))
        go_loopw [10, 11] (fun v i wr => MostRel w tbs k v i wr) (fun _ i _ => (k - intOf i).toNat)
        case atStart => exact ⟨0, by omega, by omega, rfl, hide (.inl (Own.nil _ _ _ _)), HB2⟩
        case round =>
          obtain ⟨j, hj0, hj1, rfl, hown', hbel'⟩ := hrel
          by_cases hlt' : j < k
          · have hl := tbs_len j.toNat
            have hL : Hid ((tbs j.toNat).length + 9 ≤ 1000000) := hide (by omega)
            clear hl
            go_wp2_with (first
              | (at_builtin; (refine app_stringS rfl (.tmp 77) _ 22 9 rfl 5 i0 Try.underlying22 Try.underlying9 HI0.out.1 HI0.out.2.1 HI0.out.2.2.1 HI0.out.2.2.2 w.heap.size _ (tbs j.toNat) rfl hown'.out [116, 32] rfl (by decide) (by have := hL.out; simp; omega) hbel'.out.size w.heap.size (Nat.le_refl _) hbel'.out ?_); intro v4 w4 hown4 hbel4 hsz4; have HO4 := hide hown4; have HB4 := hide hbel4; have HLI := hide (line_lit w4 5 j hj0 (by omega)); have HA4 : Hid (Below w.heap.size w (w4.alloc (.cells #[.int .u8 (49 + j / 1000), .int .u8 (48 + j / 100 % 10), .int .u8 (48 + j / 10 % 10), .int .u8 (48 + j % 10)] 5))) := hide (hbel4.alloc hbel4.size _); clear hown4 hbel4 hsz4)
              | (at_builtin; (refine app_slice rfl (.tmp 79) (.tmp 98) 22 rfl 5 i0 (.int .u8 0) 1 Try.underlying22 HI0.out.1 HI0.out.2.1 HI0.out.2.2.1 HI0.out.2.2.2 rfl (by decide) .u8 w.heap.size v4 _ rfl (HO4.out.alloc _) (some ⟨w4.heap.size, 0, none⟩) 4 4 [49 + j / 1000, 48 + j / 100 % 10, 48 + j / 10 % 10, 48 + j % 10] rfl rfl HLI.out (fun q => nomatch q) (by have := hL.out; simp; omega) HA4.out.size w.heap.size (Nat.le_refl _) HA4.out ?_); intro v5 w5 hown5 hbel5 hsz5; have HO5 := hide hown5; have HB5 := hide hbel5; clear hown5 hbel5 hsz5)
              | (at_builtin; (refine app_stringS rfl (.tmp 100) _ 22 9 rfl 5 i0 Try.underlying22 Try.underlying9 HI0.out.1 HI0.out.2.1 HI0.out.2.2.1 HI0.out.2.2.2 w.heap.size v5 _ rfl (.inl HO5.out) [32, 99, 10] rfl (by decide) (by have := hL.out; simp; omega) HB5.out.size w.heap.size (Nat.le_refl _) HB5.out ?_); intro v6 w6 hown6 hbel6 hsz6; have HO6 : Hid (OwnS 5 w.heap.size w6 v6 (tbs (j + 1).toNat)) := hide (.inl (by rw [tbs_next hj0]; exact hown6)); have HB6 := hide hbel6; clear hown6 hbel6 hsz6))
            go_roundw
            case rel => exact ⟨j + 1, by omega, by omega, by first | rfl | go_num, HO6, HB6⟩
            case measure => simp [intOf]; omega
          · obtain rfl : j = k := by omega
            obtain ⟨a1, c1, l1, z1, rfl, hl1, hz1, hc1, hr1⟩ := hown'.out.view (by rw [tbs_len]; omega) (tbs_wf _ (by omega))
            have HR1 := hide hr1
            have HE := hide (decS_txns (tbs_z j.toNat) (n := j.toNat) (most := m.toNat) (by omega) (by omega))
            rw [← tbs_len, ← hl1.out, ← hz1.out, Int.toNat_of_nonneg hm0] at HE
            clear hr1
            by_cases h24 : 1024 < j
            · have HE1 : Hid (decS z1 l1 m = ([], 3, 9216)) := by
                show _ = _
                rw [HE.out, if_pos (by omega)]
                rfl
              go_wp2_with (first | (go_at_call 8; go_must ((with_reducible refine (dec_at a1 l1 c1 z1 m _ HR1.out hc1 HE1).mono ?_); rintro e' w7 ⟨tb, tbcap, rfl, -, hb7, -⟩)) | (go_at_call 7; go_must ((with_reducible refine (works_any _).mono ?_); rintro e' w8 ⟨rfl, hb8⟩)))
              go_ret
              exact ⟨rfl, (most_box hbel'.out hb7.out).trans (hb8.mono (most_box hbel'.out hb7.out).size)⟩
            · have HE1 : Hid (decS z1 l1 m = (txns j.toNat, 0, 0)) := by
                show _ = _
                rw [HE.out, if_neg (by omega)]
              have HLN : Hid (((txns j.toNat).length : Int) = j) := hide (by simp [txns]; omega)
              go_wp2_with (first | (go_at_call 8; go_must ((with_reducible refine (dec_at a1 l1 c1 z1 m _ HR1.out hc1 HE1).mono ?_); rintro e' w7 ⟨tb, tbcap, rfl, -, hb7, -⟩)) | (go_at_call 7; go_must ((with_reducible refine (works_any _).mono ?_); rintro e' w8 ⟨rfl, hb8⟩)))
              go_ret
              exact ⟨rfl, (most_box hbel'.out hb7.out).trans (hb8.mono (most_box hbel'.out hb7.out).size)⟩
      · have HD1 : Hid (decS z0 l0 m = (reads k.toNat, 0, 0)) := by
          show _ = _
          rw [HD.out, if_neg (by omega)]
        have HOP : Hid ((opsN (reads k.toNat) : Int) = k) := hide (by rw [reads_opsN]; omega)
        clear HD
        go_wp2_with (first | (go_at_call 8; go_must ((with_reducible refine (dec_at a0 l0 c0 z0 m _ HR.out hc0 HD1).mono ?_); rintro e' w2 ⟨ta, tcap, rfl, ht2, hb2, hf2⟩; have HB2 : Hid (Below w.heap.size w (w2.alloc (.cells #[.slice ta (reads k.toNat).length tcap] 26))) := hide (most_box hbel.out hb2.out); have HT2 := hide (ht2.out.keep (Below.alloc (Below.refl _ _) (Nat.le_refl _) (.cells #[.slice ta (reads k.toNat).length tcap] 26))))) | (go_at_call 11; go_must ((with_reducible refine (ops_any _ _ _ _ HT2.out (by have := hf2.out.1; omega) (by have := hf2.out.2; omega)).mono ?_); rw [HOP.out]; rintro e' w3 ⟨rfl, hb3⟩; have HB3 := hide (HB2.out.trans (hb3.mono HB2.out.size)); clear hb3)))
        go_loopw [10, 11] (fun v i wr => MostRel w tbs k v i wr) (fun _ i _ => (k - intOf i).toNat)
        case atStart => exact ⟨0, by omega, by omega, rfl, hide (.inl (Own.nil _ _ _ _)), HB3⟩
        case round =>
          obtain ⟨j, hj0, hj1, rfl, hown', hbel'⟩ := hrel
          by_cases hlt' : j < k
          · have hl := tbs_len j.toNat
            have hL : Hid ((tbs j.toNat).length + 9 ≤ 1000000) := hide (by omega)
            clear hl
            go_wp2_with (first
              | (at_builtin; (refine app_stringS rfl (.tmp 77) _ 22 9 rfl 5 i0 Try.underlying22 Try.underlying9 HI0.out.1 HI0.out.2.1 HI0.out.2.2.1 HI0.out.2.2.2 w.heap.size _ (tbs j.toNat) rfl hown'.out [116, 32] rfl (by decide) (by have := hL.out; simp; omega) hbel'.out.size w.heap.size (Nat.le_refl _) hbel'.out ?_); intro v4 w4 hown4 hbel4 hsz4; have HO4 := hide hown4; have HB4 := hide hbel4; have HLI := hide (line_lit w4 5 j hj0 (by omega)); have HA4 : Hid (Below w.heap.size w (w4.alloc (.cells #[.int .u8 (49 + j / 1000), .int .u8 (48 + j / 100 % 10), .int .u8 (48 + j / 10 % 10), .int .u8 (48 + j % 10)] 5))) := hide (hbel4.alloc hbel4.size _); clear hown4 hbel4 hsz4)
              | (at_builtin; (refine app_slice rfl (.tmp 79) (.tmp 98) 22 rfl 5 i0 (.int .u8 0) 1 Try.underlying22 HI0.out.1 HI0.out.2.1 HI0.out.2.2.1 HI0.out.2.2.2 rfl (by decide) .u8 w.heap.size v4 _ rfl (HO4.out.alloc _) (some ⟨w4.heap.size, 0, none⟩) 4 4 [49 + j / 1000, 48 + j / 100 % 10, 48 + j / 10 % 10, 48 + j % 10] rfl rfl HLI.out (fun q => nomatch q) (by have := hL.out; simp; omega) HA4.out.size w.heap.size (Nat.le_refl _) HA4.out ?_); intro v5 w5 hown5 hbel5 hsz5; have HO5 := hide hown5; have HB5 := hide hbel5; clear hown5 hbel5 hsz5)
              | (at_builtin; (refine app_stringS rfl (.tmp 100) _ 22 9 rfl 5 i0 Try.underlying22 Try.underlying9 HI0.out.1 HI0.out.2.1 HI0.out.2.2.1 HI0.out.2.2.2 w.heap.size v5 _ rfl (.inl HO5.out) [32, 99, 10] rfl (by decide) (by have := hL.out; simp; omega) HB5.out.size w.heap.size (Nat.le_refl _) HB5.out ?_); intro v6 w6 hown6 hbel6 hsz6; have HO6 : Hid (OwnS 5 w.heap.size w6 v6 (tbs (j + 1).toNat)) := hide (.inl (by rw [tbs_next hj0]; exact hown6)); have HB6 := hide hbel6; clear hown6 hbel6 hsz6))
            go_roundw
            case rel => exact ⟨j + 1, by omega, by omega, by first | rfl | go_num, HO6, HB6⟩
            case measure => simp [intOf]; omega
          · obtain rfl : j = k := by omega
            obtain ⟨a1, c1, l1, z1, rfl, hl1, hz1, hc1, hr1⟩ := hown'.out.view (by rw [tbs_len]; omega) (tbs_wf _ (by omega))
            have HR1 := hide hr1
            have HE := hide (decS_txns (tbs_z j.toNat) (n := j.toNat) (most := m.toNat) (by omega) (by omega))
            rw [← tbs_len, ← hl1.out, ← hz1.out, Int.toNat_of_nonneg hm0] at HE
            clear hr1
            by_cases h24 : 1024 < j
            · have HE1 : Hid (decS z1 l1 m = ([], 3, 9216)) := by
                show _ = _
                rw [HE.out, if_pos (by omega)]
                rfl
              go_wp2_with (first | (go_at_call 8; go_must ((with_reducible refine (dec_at a1 l1 c1 z1 m _ HR1.out hc1 HE1).mono ?_); rintro e' w7 ⟨tb, tbcap, rfl, -, hb7, -⟩)) | (go_at_call 7; go_must ((with_reducible refine (works_any _).mono ?_); rintro e' w8 ⟨rfl, hb8⟩)))
              go_ret
              exact ⟨rfl, (most_box hbel'.out hb7.out).trans (hb8.mono (most_box hbel'.out hb7.out).size)⟩
            · have HE1 : Hid (decS z1 l1 m = (txns j.toNat, 0, 0)) := by
                show _ = _
                rw [HE.out, if_neg (by omega)]
              have HLN : Hid (((txns j.toNat).length : Int) = j) := hide (by simp [txns]; omega)
              go_wp2_with (first | (go_at_call 8; go_must ((with_reducible refine (dec_at a1 l1 c1 z1 m _ HR1.out hc1 HE1).mono ?_); rintro e' w7 ⟨tb, tbcap, rfl, -, hb7, -⟩)) | (go_at_call 7; go_must ((with_reducible refine (works_any _).mono ?_); rintro e' w8 ⟨rfl, hb8⟩)))
              go_ret
              exact ⟨rfl, (most_box hbel'.out hb7.out).trans (hb8.mono (most_box hbel'.out hb7.out).size)⟩
theorem walk_historyMost (w : World) (n : Int) (hn : (Lit.int .u16 n).wf = true) (m : Int) (hm : (Lit.int .u16 m).wf = true) : Calls Try.prog 6 #[.int .u16 n, .int .u16 m] w fun e w' => e = .returned (.bool true) ∧ Below w.heap.size w w' := by
  have a := bounds_u16 hn
  have b := bounds_u16 hm
  by_cases h : 5000 < n ∨ 4096 < m
  · exact most_long w n m h
  · exact most_walk w n m a.1 (by omega) b.1 (by omega)
end Go.Proofs.Ytkdggnfjefgonaa.Walk
