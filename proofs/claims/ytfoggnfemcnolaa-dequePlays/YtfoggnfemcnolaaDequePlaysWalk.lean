/- DequePlays, walked. -/
import Derived.Test.YtfoggnfemcnolaaDqStep
import Derived.Test.YtfoggnfemcnolaaRecs
namespace Go.Proofs.Ytfoggnfemcnolaa.Walk
open Go.RowKit Go.Proofs.Ytfoggnfemcnolaa.Dig Go.Proofs.Ytfoggnfemcnolaa.Mem Go.Proofs.Ytfoggnfemcnolaa.Dq Go.Proofs.Ytfoggnfemcnolaa.DqI
set_option linter.unusedVariables false
set_option linter.unusedSimpArgs false

theorem plays_no (w : World) (a : Option Addr) (n c : Nat) (h : 200 < n) (hn : n ≤ 9223372036854775807) : Calls Try.prog 3 #[.slice a n c] w fun e w' => e = .returned (.bool true) ∧ Below w.heap.size w w' := by
  have g0 : (200 : Int) < n := by omega
  go_enter Try.func3, Try.ntmps3
  go_wp2_with (first | (go_at_call 7; go_must ((with_reducible refine (works7_any _).mono ?_); rintro e w1 ⟨rfl, hb1⟩)))
  go_ret
  exact ⟨rfl, hb1⟩
/-- Between two acts. -/
def PlayR (w : World) (n : Nat) (mv kv : Value) (wr : World) : Prop := ∃ (k q : Nat) (M : List Int) (a : Option Addr) (c : Nat), k ≤ n ∧ kv = .int .i64 (k : Int) ∧ mv = .slice a q c ∧ Hid (q = M.length) ∧ Hid (WfL M) ∧ Hid (M.length ≤ k) ∧ Hid (Env w w.heap.size M [(a, c, M)] [] wr)
theorem acts_two {w : World} {a : Option Addr} {n : Nat} {Y : Nat → Nat → Int} (h : Frame.RdRec [.i64, .i64] w a n Y) {i : Nat} (hi : i < n) :
    ∃ b off, a = some ⟨b, off, none⟩ ∧ (∀ w', Below w.heap.size w w' → w'.cell? ⟨b, off + i * 2, none⟩ = some (.int .i64 (Y i 0)) ∧ w'.cell? ⟨b, off + i * 2 + 1, none⟩ = some (.int .i64 (Y i 1))) ∧ (Lit.int .i64 (Y i 0)).wf = true ∧ (Lit.int .i64 (Y i 1)).wf = true := by
  obtain ⟨b, off, e, hc⟩ := h i hi
  have c0 : w.cell? ⟨b, off + i * 2, none⟩ = some (.int .i64 (Y i 0)) ∧ (Lit.int .i64 (Y i 0)).wf = true := hc 0 .i64 rfl
  have c1 : w.cell? ⟨b, off + i * 2 + 1, none⟩ = some (.int .i64 (Y i 1)) ∧ (Lit.int .i64 (Y i 1)).wf = true := hc 1 .i64 rfl
  have hb := lt_of_cell c0.1
  exact ⟨b, off, e, fun w' ho => ⟨(ho.cell (p := ⟨b, off + i * 2, none⟩) hb).trans c0.1, (ho.cell (p := ⟨b, off + i * 2 + 1, none⟩) hb).trans c1.1⟩, c0.2, c1.2⟩
set_option maxHeartbeats 4000000 in
set_option maxRecDepth 20000 in
theorem walk_dequePlays (w : World) (a : Option Addr) (n c : Nat) (Y : Nat → Nat → Int) (ha : Frame.IsRec [.i64, .i64] w a n c Y) :
    Calls Try.prog 3 #[.slice a n c] w fun e w' => e = .returned (.bool true) ∧ Below w.heap.size w w' := by
  obtain ⟨q1, q2⟩ := ha.cap
  by_cases hbig : 200 < n
  · exact plays_no w a n c hbig (by omega)
  have hr := hide (ha.rd (by decide))
  have g0 : ¬ (200 : Int) < n := by omega
  have hn2 : n ≤ 200 := by omega
  have R0 : Hid (PlayR w n (.slice none 0 0) (.int .i64 0) (w.alloc (.cells #[.slice none 0 0, .int .i64 0, .int .i64 0] 27))) := ⟨0, 0, [], none, 0, Nat.zero_le _, rfl, rfl, hide rfl, hide (fun x hx => by cases hx), hide (by simp), hide ((Env.new w 27 rfl w (Below.refl _ _) rfl).arg ⟨by simp, ⟨by simp, fun i hi => by simp at hi⟩, fun _ => rfl⟩)⟩
  clear ha q1 q2 hbig
  go_enter Try.func3, Try.ntmps3
  go_wp2
  generalize (w.alloc (.cells #[.slice none 0 0, .int .i64 0, .int .i64 0] 27)) = W0 at *
  go_loopw [4, 5] (fun mv i wr => PlayR w n mv i wr) (fun _ i _ => n - (intOf i).toNat)
  case atStart => exact R0.out
  case round =>
    obtain ⟨k, q, M, am, cm, hk, rfl, rfl, HQ, HW, HLE, HE⟩ := hrel
    clear R0
    by_cases hlt : k < n
    · obtain ⟨b1, o1, rfl, hact, wd, wx⟩ := acts_two hr.out hlt
      obtain ⟨d, hd⟩ : ∃ d, d = Y k 0 := ⟨_, rfl⟩
      obtain ⟨x, hx⟩ : ∃ x, x = Y k 1 := ⟨_, rfl⟩
      rw [← hd] at hact wd
      rw [← hx] at hact wx
      have HA := hide hact
      have HX := hide wx
      obtain ⟨f0, f1⟩ := hact wr HE.out.below
      have hli : (k : Int) < n := by omega
      have hbd := bounds_i64 wd
      have hbx := bounds_i64 wx
      obtain ⟨d1, d2⟩ := hbd
      obtain ⟨x1, x2⟩ := hbx
      clear hact hd hx wd wx
      by_cases e1 : d = 1
      · subst e1
        rcases List.eq_nil_or_concat M with hM | ⟨M', y, hM⟩
        · subst hM
          obtain rfl : q = 0 := HQ.out
          have P := hide (popN HE rfl)
          go_wp2_with (first
            | (go_at_call 8; go_must ((with_reducible refine (Hid.out P).mono ?_); rintro e w2 ⟨rfl, H2⟩))
            | (go_at_call 9; go_must ((refine (rpopN am cm H2).mono ?_); rintro e w3 ⟨rfl, H3⟩; clear P H2))
            | (go_at_call 13; go_must ((refine (lenE (n := 0) H3 HQ.out).mono ?_); rintro e w5 ⟨rfl, H5⟩))
            | (go_at_call 15; go_must ((refine (listE (n := 0) H5 HW.out HQ.out).mono ?_); rintro e w6 ⟨a6, c6, rfl, H6⟩))
            | (go_at_call 14; go_must ((refine (sameE (a := a6) (c := c6) (m := ([] : List Int)) (a2 := am) (c2 := cm) (m2 := ([] : List Int)) (n := 0) (n2 := 0) (r := true) H6 (by simp) (by simp) HQ.out HQ.out (decide_eq_true rfl)).mono ?_); rintro e w7 ⟨rfl, H7⟩)))
          go_roundw
          case rel => exact ⟨k + 1, 0, ([] : List Int), am, cm, by omega, by simp, rfl, HQ, HW, (hide (by simp)), hide (H7.out.sub (by simp) (by simp))⟩
          case measure => simp [intOf]; omega
        · rw [List.concat_eq_append] at hM
          subst hM
          obtain ⟨q', rfl⟩ : ∃ q', q = q' + 1 := ⟨q - 1, by have := HQ.out; simp at this; omega⟩
          have HQ' : Hid (q' = M'.length) := hide (by have := HQ.out; simp at this; omega)
          have HW' : Hid (WfL M') := hide (fun z hz => HW.out z (by simp [hz]))
          have HL' : Hid (M'.length ≤ k) := hide (by have := HLE.out; simp at this; omega)
          have hql : q' ≤ 100000 := by have := HQ'.out; have := HL'.out; omega
          have P := hide (popE (x := y) (l' := M') HE rfl)
          have hyy : (y != y) = false := by simp
          clear HQ HW HLE
          go_wp2_with (first
            | (go_at_call 8; go_must ((with_reducible refine (Hid.out P).mono ?_); rintro e w2 ⟨rfl, H2⟩))
            | (go_at_call 9; go_must ((refine (rpopE (a := am) (c := cm) (m := M') (x := y) (n := q') H2 (by simp) HQ'.out hql).mono ?_); rintro e w3 ⟨a3, c3, rfl, H3⟩; clear P H2))
            | (go_at_call 13; go_must ((refine (lenE (n := q') H3 HQ'.out).mono ?_); rintro e w5 ⟨rfl, H5⟩))
            | (go_at_call 15; go_must ((refine (listE (n := q') H5 HW'.out HQ'.out).mono ?_); rintro e w6 ⟨a6, c6, rfl, H6⟩))
            | (go_at_call 14; go_must ((refine (sameE (a := a6) (c := c6) (m := M') (a2 := a3) (c2 := c3) (m2 := M') (n := q') (n2 := q') (r := true) H6 (by simp) (by simp) HQ'.out HQ'.out (decide_eq_true rfl)).mono ?_); rintro e w7 ⟨rfl, H7⟩)))
          go_roundw
          case rel => exact ⟨k + 1, q', M', a3, c3, by omega, by simp, rfl, HQ', HW', (hide (by have := HL'.out; omega)), hide (H7.out.sub (by simp) (by simp))⟩
          case measure => simp [intOf]; omega
      by_cases e2 : d = 2
      · subst e2
        cases M with
        | nil =>
          obtain rfl : q = 0 := HQ.out
          have P := hide (stealN HE rfl)
          go_wp2_with (first
            | (go_at_call 10; go_must ((with_reducible refine (Hid.out P).mono ?_); rintro e w2 ⟨rfl, H2⟩))
            | (go_at_call 11; go_must ((refine (rstealN am cm H2).mono ?_); rintro e w3 ⟨rfl, H3⟩; clear P H2))
            | (go_at_call 13; go_must ((refine (lenE (n := 0) H3 HQ.out).mono ?_); rintro e w5 ⟨rfl, H5⟩))
            | (go_at_call 15; go_must ((refine (listE (n := 0) H5 HW.out HQ.out).mono ?_); rintro e w6 ⟨a6, c6, rfl, H6⟩))
            | (go_at_call 14; go_must ((refine (sameE (a := a6) (c := c6) (m := ([] : List Int)) (a2 := am) (c2 := cm) (m2 := ([] : List Int)) (n := 0) (n2 := 0) (r := true) H6 (by simp) (by simp) HQ.out HQ.out (decide_eq_true rfl)).mono ?_); rintro e w7 ⟨rfl, H7⟩)))
          go_roundw
          case rel => exact ⟨k + 1, 0, ([] : List Int), am, cm, by omega, by simp, rfl, HQ, HW, (hide (by simp)), hide (H7.out.sub (by simp) (by simp))⟩
          case measure => simp [intOf]; omega
        | cons y M' =>
          obtain ⟨q', rfl⟩ : ∃ q', q = q' + 1 := ⟨q - 1, by have := HQ.out; simp at this; omega⟩
          have HQ' : Hid (q' = M'.length) := hide (by have := HQ.out; simp at this; omega)
          have HW' : Hid (WfL M') := hide (fun z hz => HW.out z (by simp [hz]))
          have HL' : Hid (M'.length ≤ k) := hide (by have := HLE.out; simp at this; omega)
          have hql : q' ≤ 100000 := by have := HQ'.out; have := HL'.out; omega
          have P := hide (stealE (x := y) (l' := M') HE rfl)
          have hyy : (y != y) = false := by simp
          clear HQ HW HLE
          go_wp2_with (first
            | (go_at_call 10; go_must ((with_reducible refine (Hid.out P).mono ?_); rintro e w2 ⟨rfl, H2⟩))
            | (go_at_call 11; go_must ((refine (rstealE (a := am) (c := cm) (m := M') (x := y) (n := q') H2 (by simp) HQ'.out hql).mono ?_); rintro e w3 ⟨a3, c3, rfl, H3⟩; clear P H2))
            | (go_at_call 13; go_must ((refine (lenE (n := q') H3 HQ'.out).mono ?_); rintro e w5 ⟨rfl, H5⟩))
            | (go_at_call 15; go_must ((refine (listE (n := q') H5 HW'.out HQ'.out).mono ?_); rintro e w6 ⟨a6, c6, rfl, H6⟩))
            | (go_at_call 14; go_must ((refine (sameE (a := a6) (c := c6) (m := M') (a2 := a3) (c2 := c3) (m2 := M') (n := q') (n2 := q') (r := true) H6 (by simp) (by simp) HQ'.out HQ'.out (decide_eq_true rfl)).mono ?_); rintro e w7 ⟨rfl, H7⟩)))
          go_roundw
          case rel => exact ⟨k + 1, q', M', a3, c3, by omega, by simp, rfl, HQ', HW', (hide (by have := HL'.out; omega)), hide (H7.out.sub (by simp) (by simp))⟩
          case measure => simp [intOf]; omega
      · have g1 : (d == 1) = false := by simpa using e1
        have g2 : (d == 2) = false := by simpa using e2
        have P := hide (pushE x HE (by have := HLE.out; omega))
        clear e1 e2
        go_wp2_with (first
          | (go_at_call 12; go_must ((with_reducible refine (Hid.out P).mono ?_); rintro e w2 ⟨rfl, H2⟩; obtain ⟨f3, f4⟩ := HA.out w2 H2.out.below)))
        have hb1 := lt_of_cell f4
        have hb2 : Below w2.heap.size w2 w2.drew := (Below.refl _ _).drew
        have K0 : Hid (StepK w2 (.slice (some ⟨w2.heap.size, 0, none⟩) 0 0) [] (w2.drew.alloc (.cells #[] 3))) := hide ⟨OwnI.empty rfl (Nat.le_refl _), hb2.alloc (Nat.le_refl _) _⟩
        have K01 := hide (K0.out.alloc (.cells #[.int .i64 x] 3))
        have K10 : Hid (StepK w2 (.slice (some ⟨w2.heap.size + 1, 0, none⟩) 0 0) [] ((w2.drew.alloc (.cells #[.int .i64 x] 3)).alloc (.cells #[] 3))) := hide ⟨OwnI.empty (by simp) (by simp), (hb2.alloc (Nat.le_refl _) _).alloc (by simp) _⟩
        have hwx : WfL [x] := fun z hz => by obtain rfl := List.mem_singleton.1 hz; exact HX.out
        have RX01 : Hid (RowI ((w2.drew.alloc (.cells #[] 3)).alloc (.cells #[.int .i64 x] 3)) (some ⟨w2.heap.size + 1, 0, none⟩) 1 [x]) := hide (rowi_made _ [x] 3 (by simp) rfl (by simp) hwx)
        have RX10 : Hid (RowI ((w2.drew.alloc (.cells #[.int .i64 x] 3)).alloc (.cells #[] 3)) (some ⟨w2.heap.size, 0, none⟩) 1 [x]) := hide ((rowi_made w2.drew [x] 3 (p := w2.heap.size) (n := 1) rfl rfl (by simp) hwx).keep ((Below.refl _ _).alloc (Nat.le_refl _) _))
        have RM := hide (H2.out.row (a := am) (c := cm) (m := M) (by simp))
        have HWX := hide hwx
        have HML : Hid (q ≤ 200) := hide (by have := HQ.out; have := HLE.out; omega)
        clear hwx hb2 P
        go_region_law (first
          | (refine step_app_g (by rfl) (.tmp 40) (.tmp 41) (by rfl) w2.heap.size (.slice (some ⟨w2.heap.size, 0, none⟩) 0 0) [] (by rfl) K0.out.own am cm q M (by rfl) HQ.out (RM.out.keep K0.out.below) (by have := HQ.out; have := HML.out; simp; omega) (by simp <;> omega) ?_; intro v3 w3 hown hg; have K3 := hide (K0.out.next hown hg); have f5 := (HA.out w3 (H2.out.below.trans (K3.out.below.mono H2.out.below.size))).2; have hs3 := K3.out.below.size; clear hown hg)
          | (refine step_app_g (by rfl) (.tmp 40) (.tmp 41) (by rfl) w2.heap.size (.slice (some ⟨w2.heap.size, 0, none⟩) 0 0) [] (by rfl) K01.out.own am cm q M (by rfl) HQ.out (RM.out.keep K01.out.below) (by have := HQ.out; have := HML.out; simp; omega) (by simp <;> omega) ?_; intro v3 w3 hown hg; have K3 := hide (K01.out.next hown hg); have RX3 := hide (rowi_grown RX01.out hg (fun z ez e => by cases ez; simp [Value.ownBlock] at e)); have hs3 := K3.out.below.size; clear hown hg)
          | (refine step_app_g (by rfl) (.tmp 40) (.tmp 41) (by rfl) w2.heap.size (.slice (some ⟨w2.heap.size + 1, 0, none⟩) 0 0) [] (by rfl) K10.out.own am cm q M (by rfl) HQ.out (RM.out.keep K10.out.below) (by have := HQ.out; have := HML.out; simp; omega) (by simp <;> omega) ?_; intro v3 w3 hown hg; have K3 := hide (K10.out.next hown hg); have RX3 := hide (rowi_grown RX10.out hg (fun z ez e => by cases ez; simp [Value.ownBlock] at e)); have hs3 := K3.out.below.size; clear hown hg)
          | (refine step_app_g (by rfl) (.tmp 42) (.tmp 48) (by rfl) w2.heap.size v3 ([] ++ M) (by rfl) (K3.out.alloc _).own (some ⟨w3.heap.size, 0, none⟩) 1 1 [x] (by rfl) rfl (rowi_made w3 [x] 3 rfl rfl (by simp) HWX.out) (by have := HQ.out; have := HML.out; simp; omega) (by simp <;> omega) ?_; intro v4 w4 hown hg; have K4 := hide ((K3.out.alloc _).next hown hg); clear hown hg)
          | (refine step_app_g (by rfl) (.tmp 42) (.tmp 48) (by rfl) w2.heap.size v3 ([] ++ M) (by rfl) K3.out.own _ 1 1 [x] (by rfl) rfl RX3.out (by have := HQ.out; have := HML.out; simp; omega) hs3 ?_; intro v4 w4 hown hg; have K4 := hide (K3.out.next hown hg); clear hown hg))
        all_goals
          have HR : Hid (∃ a c, v4 = .slice a (q + 1) c ∧ RowI w4 a c (M ++ [x]) ∧ Fresh w2.heap.size a) := hide (by
            obtain ⟨a, c, e, h1, h2⟩ := OwnI.row K4.out.own (by have := HQ.out; have := HML.out; simp; omega) (fun z hz => by
              simp at hz
              rcases hz with hz | rfl
              · exact HW.out z hz
              · exact HX.out)
            exact ⟨a, c, by rw [e, HQ.out]; simp, by simpa using h1, h2⟩)
          obtain ⟨a4, c4, rfl, h1, h2⟩ := HR.out
          have HE4 := hide (H2.out.more K4.out.below h1 h2)
          have HQ4 : Hid (q + 1 = (M ++ [x]).length) := hide (by have := HQ.out; simp; omega)
          have HW4 : Hid (WfL (M ++ [x])) := hide (fun z hz => by
            simp at hz
            rcases hz with hz | rfl
            · exact HW.out z hz
            · exact HX.out)
          have HL4 : Hid ((M ++ [x]).length ≤ k + 1) := hide (by have := HLE.out; simp; omega)
          clear h1 h2 HR K4 K3
          clear HQ HW HLE HX HWX
          go_wp2_with (first
            | (go_at_call 13; go_must ((refine (lenE (n := (q + 1)) HE4 HQ4.out).mono ?_); rintro e w5 ⟨rfl, H5⟩))
            | (go_at_call 15; go_must ((refine (listE (n := (q + 1)) H5 HW4.out HQ4.out).mono ?_); rintro e w6 ⟨a6, c6, rfl, H6⟩))
            | (go_at_call 14; go_must ((refine (sameE (a := a6) (c := c6) (m := (M ++ [x])) (a2 := a4) (c2 := c4) (m2 := (M ++ [x])) (n := (q + 1)) (n2 := (q + 1)) (r := true) H6 (by simp) (by simp) HQ4.out HQ4.out (decide_eq_true rfl)).mono ?_); rintro e w7 ⟨rfl, H7⟩)))
          go_roundw
          case rel => exact ⟨k + 1, (q + 1), (M ++ [x]), a4, c4, by omega, by simp, rfl, HQ4, HW4, HL4, hide (H7.out.sub (by simp) (by simp))⟩
          case measure => simp [intOf]; omega
    · have hge : ¬ (k : Int) < n := by omega
      have HB := hide HE.out.below
      clear HE
      go_wp2_with (first | (go_at_call 7; go_must ((with_reducible refine (works7_any _).mono ?_); rintro e w9 ⟨rfl, hb9⟩; have HB9 := hide hb9; clear hb9)))
      go_ret
      exact ⟨rfl, HB.out.trans (HB9.out.mono HB.out.size)⟩
end Go.Proofs.Ytfoggnfemcnolaa.Walk
