/- What is at the bottom is taken; what is at the top. -/
import Derived.Test.YtfoggnfemcnolaaDqPush
namespace Go.Proofs.Ytfoggnfemcnolaa.DqI
open Go.RowKit Go.Proofs.Ytfoggnfemcnolaa.Dig Go.Proofs.Ytfoggnfemcnolaa.Mem Go.Proofs.Ytfoggnfemcnolaa.Dq Go.Proofs.Ytfoggnfemcnolaa.Bit Go.Shelf
set_option linter.unusedVariables false
set_option linter.unusedSimpArgs false

theorem len_none {w : World} {s : Sh} (h : s.At w []) : Calls Try.prog 13 #[s.ptr] w fun e w' => e = .returned (.int .i64 0) ∧ w' = w := len_sh h
theorem pop_none {w : World} {s : Sh} (h : s.At w []) : Calls Try.prog 8 #[s.ptr] w fun e w' => e = .returned (.tuple #[(Value.int .i64 0), .bool false]) ∧ w' = w := by
  have HL := hide (len_none h)
  obtain ⟨q, hq⟩ := s.shape
  rw [hq] at HL ⊢
  clear h hq
  go_enter Try.func8, Try.ntmps8
  go_wp2_with (go_at_call 13; go_must ((with_reducible refine (Hid.out HL).mono ?_); rintro e w9 ⟨rfl, rfl⟩))
  refine bodyPost_ret (v := .tuple #[(Value.int .i64 0), .bool false]) (by simp [results, Try.results8, go_sem]) rfl ?_
  exact ⟨rfl, rfl⟩
theorem steal_none {w : World} {s : Sh} (h : s.At w []) : Calls Try.prog 10 #[s.ptr] w fun e w' => e = .returned (.tuple #[(Value.int .i64 0), .bool false]) ∧ w' = w := by
  have HL := hide (len_none h)
  obtain ⟨q, hq⟩ := s.shape
  rw [hq] at HL ⊢
  clear h hq
  go_enter Try.func10, Try.ntmps10
  go_wp2_with (go_at_call 13; go_must ((with_reducible refine (Hid.out HL).mono ?_); rintro e w9 ⟨rfl, rfl⟩))
  refine bodyPost_ret (v := .tuple #[(Value.int .i64 0), .bool false]) (by simp [results, Try.results10, go_sem]) rfl ?_
  exact ⟨rfl, rfl⟩
set_option maxHeartbeats 1000000 in
theorem pop_dq {w : World} {b g n t : Nat} {rs l : List Int} {x : Int} (h : Dq w b g n t rs (l ++ [x])) :
    Calls Try.prog 8 #[.pointer (some ⟨b, 0, none⟩)] w fun e w' => e = .returned (.tuple #[(Value.int .i64 x), .bool true]) ∧ Turned w b (R2 b g) l w' := by
  obtain ⟨k, hk⟩ : ∃ k, k = l.length + 1 := ⟨_, rfl⟩
  have hkl : (l ++ [x]).length = k := by rw [hk]; simp
  have hc := h.ring.cnt
  have hn := h.le
  rw [hkl] at hc
  obtain ⟨r1, r2⟩ := h.ring.pop (0 : Int)
  have c0 : w.cell? ⟨b, 2, none⟩ = some (.int .i64 (k : Int)) := by rw [← hkl]; exact h.cells.2.2
  have HL := hide (len_cell (k := (k : Int)) w c0)
  have HF := lift_dq w h l.length (by omega)
  have e0 : ((l.length : Nat) : Int) = (k : Int) - 1 := by omega
  rw [r2, e0, hkl] at HF
  have HLF := hide HF
  have key : ∀ w1 : World, Is w1 b #[.slice (some ⟨g, 0, none⟩) n n, .int .i64 (t : Int), .int .i64 (k : Int)] → Is w1 g (cellsOf (rs.set ((t + l.length) % n) (0 : Int))) → Dq (w1.setCell ⟨b, 2, none⟩ (.int .i64 ((k : Int) - 1))) b g n t (rs.set ((t + l.length) % n) (0 : Int)) l := fun w1 q1 q2 =>
    ⟨by rw [e0]; exact q1.set 2 _, q2.other (p := ⟨b, 2, none⟩) h.ne _, h.ne, r1, h.le⟩
  have HK := hide key
  have hki : (k : Int) ≤ 1000000 := by omega
  have hk1 : 1 ≤ (k : Int) := by omega
  have hk0 : ¬ (k : Int) = 0 := by omega
  clear h hk hkl r1 r2 HF e0 key
  go_enter Try.func8, Try.ntmps8
  go_wp2_with (first
    | (go_at_call 13; go_must ((with_reducible refine (Hid.out HL).mono ?_); rintro e w9 ⟨rfl, rfl⟩; clear HL))
    | (go_at_call 21; go_must ((with_reducible refine (Hid.out HLF).mono ?_); rintro e w1 ⟨rfl, q1, q2, q3⟩; have c2 := q1.cell 2 rfl; have f2 := q1.frozen 2; have HD := hide (HK.out _ q1 q2); have HO := hide q3; clear q1 q2 q3 HLF))
    | (go_at_call 22; go_must ((with_reducible refine (shrink_dq HD.out).mono ?_); rintro e w2 ⟨rfl, q⟩; have HT := hide q; clear q)))
  refine bodyPost_ret (v := .tuple #[(Value.int .i64 x), .bool true]) (by simp [results, Try.results8, go_sem]) rfl ?_
  exact ⟨rfl, Turned.trans ((HO.out.mono (fun k q => .inr q)).setCell (p := ⟨b, 2, none⟩) (.inl (.inl rfl)) _) (.inl rfl) (fun k q => .inl q) HT.out⟩
set_option maxHeartbeats 1000000 in
theorem steal_dq {w : World} {b g n t : Nat} {rs l : List Int} {x : Int} (h : Dq w b g n t rs (x :: l)) :
    Calls Try.prog 10 #[.pointer (some ⟨b, 0, none⟩)] w fun e w' => e = .returned (.tuple #[(Value.int .i64 x), .bool true]) ∧ Turned w b (R2 b g) l w' := by
  obtain ⟨k, hk⟩ : ∃ k, k = l.length + 1 := ⟨_, rfl⟩
  have hkl : (x :: l).length = k := by rw [hk]; simp
  have hc := h.ring.cnt
  have hn := h.le
  have ht := h.ring.top
  rw [hkl] at hc
  obtain ⟨r1, r2⟩ := h.ring.steal (0 : Int)
  have c0 : w.cell? ⟨b, 2, none⟩ = some (.int .i64 (k : Int)) := by rw [← hkl]; exact h.cells.2.2
  have HL := hide (len_cell (k := (k : Int)) w c0)
  have HF := lift_dq w h 0 (by omega)
  have e0 : ((l.length : Nat) : Int) = (k : Int) - 1 := by omega
  rw [r2, hkl] at HF
  have HLF : Hid (Calls Try.prog 21 #[.pointer (some ⟨b, 0, none⟩), .int .i64 0] w fun e w' => e = .returned (Value.int .i64 x) ∧
    Is w' b #[.slice (some ⟨g, 0, none⟩) n n, .int .i64 (t : Int), .int .i64 (k : Int)] ∧ Is w' g (cellsOf (rs.set ((t + 0) % n) (0 : Int))) ∧ Only (fun k => k = g) w w') := hide HF
  obtain ⟨t', ht'⟩ : ∃ t', t' = (t + 1) % n := ⟨_, rfl⟩
  have HA : Hid (∀ w1 : World, Is w1 b #[.slice (some ⟨g, 0, none⟩) n n, .int .i64 (t : Int), .int .i64 (k : Int)] → Calls Try.prog 23 #[.pointer (some ⟨b, 0, none⟩), .int .i64 1] w1 fun e w' => e = .returned (.int .i64 (t' : Int)) ∧ ∃ m, w' = w1.drewN m) := hide (fun w1 q => by
    rw [ht']
    exact at_cells w1 (q.cell 0 rfl) (q.cell 1 rfl) ht hn 1 (by omega))
  have HK : Hid (∀ w1 : World, Is w1 b #[.slice (some ⟨g, 0, none⟩) n n, .int .i64 (t : Int), .int .i64 (k : Int)] → Is w1 g (cellsOf (rs.set ((t + 0) % n) (0 : Int))) → Dq ((w1.setCell ⟨b, 1, none⟩ (.int .i64 (t' : Int))).setCell ⟨b, 2, none⟩ (.int .i64 ((k : Int) - 1))) b g n t' (rs.set ((t + 0) % n) (0 : Int)) l) := hide (fun w1 q1 q2 =>
    ⟨by rw [e0]; exact (q1.set 1 _).set 2 _, (q2.other (p := ⟨b, 1, none⟩) h.ne _).other (p := ⟨b, 2, none⟩) h.ne _, h.ne, by rw [ht']; exact r1, h.le⟩)
  have hki : (k : Int) ≤ 1000000 := by omega
  have hk1 : 1 ≤ (k : Int) := by omega
  have hk0 : ¬ (k : Int) = 0 := by omega
  clear h hk hkl r1 r2 HF e0 ht'
  go_enter Try.func10, Try.ntmps10
  go_wp2_with (first
    | (go_at_call 13; go_must ((with_reducible refine (Hid.out HL).mono ?_); rintro e w9 ⟨rfl, rfl⟩; clear HL))
    | (go_at_call 21; go_must ((with_reducible refine (Hid.out HLF).mono ?_); rintro e w1 ⟨rfl, q1, q2, q3⟩; have HI := hide q1; have HG := hide q2; have HO := hide q3; clear q1 q2 q3 HLF))
    | (go_at_call 23; go_must ((with_reducible refine ((Hid.out HA) _ HI.out).mono ?_); rintro e w2 ⟨rfl, m, rfl⟩; have c1 := (HI.out.drewN m).cell 1 rfl; have c2 := (HI.out.drewN m).cell 2 rfl; have f1 := (HI.out.drewN m).frozen 1; have f2 := (HI.out.drewN m).frozen 2; have HD := hide (HK.out _ (HI.out.drewN m) (HG.out.drewN m)); replace HO := hide (HO.out.drewN m); clear HI HG HA HK; generalize w1.drewN m = w2 at *))
    | (go_at_call 22; go_must ((with_reducible refine (shrink_dq HD.out).mono ?_); rintro e w3 ⟨rfl, q⟩; have HT := hide q; clear q)))
  refine bodyPost_ret (v := .tuple #[(Value.int .i64 x), .bool true]) (by simp [results, Try.results10, go_sem]) rfl ?_
  exact ⟨rfl, Turned.trans (((HO.out.mono (fun k q => .inr q)).setCell (p := ⟨b, 1, none⟩) (.inl (.inl rfl)) _).setCell (p := ⟨b, 2, none⟩) (.inl (.inl rfl)) _) (.inl rfl) (fun k q => .inl q) HT.out⟩
/-- .. however it lies. -/
theorem pop_sh {w : World} {s : Sh} {l : List Int} {x : Int} (h : s.At w (l ++ [x])) : ∃ b, s.ptr = .pointer (some ⟨b, 0, none⟩) ∧ Calls Try.prog 8 #[.pointer (some ⟨b, 0, none⟩)] w fun e w' => e = .returned (.tuple #[(Value.int .i64 x), .bool true]) ∧ Turned w b s.has l w' := by
  cases s with
  | nil => have e : l ++ [x] = [] := h; simp at e
  | bare b => have e : l ++ [x] = [] := h.2; simp at e
  | ring b g n t rs => exact ⟨b, rfl, pop_dq h⟩
theorem steal_sh {w : World} {s : Sh} {l : List Int} {x : Int} (h : s.At w (x :: l)) : ∃ b, s.ptr = .pointer (some ⟨b, 0, none⟩) ∧ Calls Try.prog 10 #[.pointer (some ⟨b, 0, none⟩)] w fun e w' => e = .returned (.tuple #[(Value.int .i64 x), .bool true]) ∧ Turned w b s.has l w' := by
  cases s with
  | nil => have e : x :: l = [] := h; simp at e
  | bare b => have e : x :: l = [] := h.2; simp at e
  | ring b g n t rs => exact ⟨b, rfl, steal_dq h⟩
end Go.Proofs.Ytfoggnfemcnolaa.DqI
