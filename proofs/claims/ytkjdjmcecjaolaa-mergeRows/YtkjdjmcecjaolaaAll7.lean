/- Joined out of the texts DqShrink, DqPush, DqPop, DqPipe, in that order. -/
import Derived.Test.YtkjdjmcecjaolaaAll6
import Derived.Test.YtkjdjmcecjaolaaAll3
/- A ring that is far too great is halved. -/
namespace Go.Proofs.Ytkjdjmcecjaolaa.DqI
open Go.RowKit Go.Proofs.Ytkjdjmcecjaolaa.Dig Go.Proofs.Ytkjdjmcecjaolaa.Mem Go.Proofs.Ytkjdjmcecjaolaa.Dq Go.Proofs.Ytkjdjmcecjaolaa.Bit Go.Shelf
set_option linter.unusedVariables false
set_option linter.unusedSimpArgs false
attribute [local go_sem] Oper.semAt_some

/-- The deque at P has become l': nothing else has turned but what was the deque's; the block's other cells are as they were. -/
structure Turned (w : World) (P : Nat × Nat × Array Value) (S : Nat → Prop) (l' : List Int) (w' : World) : Prop where
  now : ∃ s' : Sh, s'.At w' l' ∧ s'.place = some P ∧ ∀ k, s'.has k → S k ∨ w.heap.size ≤ k
  only : Only S w w'
theorem Turned.trans {w w1 w2 : World} {P : Nat × Nat × Array Value} {S : Nat → Prop} {l2 : List Int} (ho : Only S w w1) {S1 : Nat → Prop} (hs : ∀ k, S1 k → S k ∨ w.heap.size ≤ k) (h : Turned w1 P S1 l2 w2) : Turned w P S l2 w2 := by
  obtain ⟨⟨s', h1, h2, h3⟩, h4⟩ := h
  refine ⟨⟨s', h1, h2, fun k hk => ?_⟩, ho.trans' h4 hs⟩
  rcases h3 k hk with q | q
  · exact hs k q
  · exact .inr (Nat.le_trans ho.size q)
theorem Turned.ring {w w' : World} {b o g n t : Nat} {cs : Array Value} {rs l : List Int} {S : Nat → Prop} (h : Dq w' b o cs g n t rs l) (hb : S b) (hg : S g ∨ w.heap.size ≤ g) (ho : Only S w w') : Turned w (b, o, cs) S l w' :=
  ⟨⟨.ring b o cs g n t rs, h, rfl, fun k hk => by
    rcases hk with rfl | rfl
    · exact .inl hb
    · exact hg⟩, ho⟩
def R2 (b g : Nat) (k : Nat) : Prop := k = b ∨ k = g
set_option maxRecDepth 100000 in
set_option maxHeartbeats 1000000 in
theorem shrink_dq {w : World} {b o g n t : Nat} {cs : Array Value} {rs l : List Int} (h : Dq w b o cs g n t rs l) :
    Calls Try.prog 89 #[.pointer (some ⟨b, o, none⟩)] w fun e w' => e = .returned (.tuple #[]) ∧ Turned w (b, o, cs) (R2 b g) l w' := by
  obtain ⟨h0, h1, h2⟩ := h.cells
  have hn := h.le
  have hc := h.ring.cnt
  have ht := h.ring.top
  have HD := hide h
  obtain ⟨m, hm⟩ : ∃ m, m = l.length := ⟨_, rfl⟩
  have HM := hide hm
  rw [← hm] at h2 hc
  have hq4 : (n : Int).tdiv 4 = ((n / 4 : Nat) : Int) := by rw [Int.tdiv_eq_ediv_of_nonneg (by omega)]; rfl
  have hq2 : (n : Int).tdiv 2 = ((n / 2 : Nat) : Int) := by rw [Int.tdiv_eq_ediv_of_nonneg (by omega)]; rfl
  clear h hm h1
  by_cases e1 : 4 < n
  · by_cases e2 : m ≤ n / 4
    · have HR := hide (fun W (hW : Dq W b o cs g n t rs l) => resize_sh (w := W) (s := .ring b o cs g n t rs) (l := l) hW rfl (n / 2) (by rw [← HM.out]; omega) (by omega) (by omega))
      obtain ⟨q, hq⟩ : ∃ q, q = n / 4 := ⟨_, rfl⟩
      obtain ⟨q', hq'⟩ : ∃ q', q' = n / 2 := ⟨_, rfl⟩
      rw [← hq] at hq4 e2
      rw [← hq'] at hq2 HR
      have e1i : (4 : Int) < n := by omega
      have e2i : (m : Int) ≤ (n : Int) / 4 := by omega
      have e3i : (n : Int) / 2 = q' := by omega
      have e4i : (n : Int) / 4 = q := by omega
      clear e1 e2 hq hq'
      go_enter Try.func89, Try.ntmps89
      go_wp2
      go_quiet (fail)
      go_wp2_with (go_at_call 90; go_must ((with_reducible refine ((Hid.out HR) _ (HD.out.drewN nq)).mono ?_); rintro e w9 ⟨rfl, hb9, ho9⟩; have HB9 := hide hb9; have HO9 := hide ho9; clear hb9 ho9))
      go_end0
      exact ⟨rfl, Turned.ring HB9.out (.inl rfl) (.inr (by exact Nat.le_refl _)) (((Only.refl _ _).drewN nq).trans (HO9.out.mono (fun k e => .inl e)))⟩
    · have e1i : (4 : Int) < n := by omega
      have e2i : decide ((m : Int) ≤ (n : Int) / 4) = false := decide_eq_false (by omega)
      clear e1 e2
      go_enter Try.func89, Try.ntmps89
      go_wp2
      go_quiet (fail)
      go_wp2
      go_end0
      exact ⟨rfl, Turned.ring (HD.out.drewN nq) (.inl rfl) (.inl (.inr rfl)) ((Only.refl _ _).drewN nq)⟩
  · have e1i : decide ((4 : Int) < n) = false := decide_eq_false (by omega)
    clear e1
    go_enter Try.func89, Try.ntmps89
    go_wp2
    go_quiet (fail)
    go_wp2
    go_end0
    exact ⟨rfl, Turned.ring (HD.out.drewN nq) (.inl rfl) (.inl (.inr rfl)) ((Only.refl _ _).drewN nq)⟩
end Go.Proofs.Ytkjdjmcecjaolaa.DqI

/- Something is put at the bottom. -/
namespace Go.Proofs.Ytkjdjmcecjaolaa.DqI
open Go.RowKit Go.Proofs.Ytkjdjmcecjaolaa.Dig Go.Proofs.Ytkjdjmcecjaolaa.Mem Go.Proofs.Ytkjdjmcecjaolaa.Dq Go.Proofs.Ytkjdjmcecjaolaa.Bit Go.Shelf
set_option linter.unusedVariables false
set_option linter.unusedSimpArgs false
attribute [local go_sem] Oper.semAt_some

theorem push_nil (x : Int) (w : World) : Calls Try.prog 75 #[.pointer none, (Value.int .i64 x)] w fun e w' => e = .returned (.tuple #[]) ∧ w' = w := by
  go_enter Try.func75, Try.ntmps75
  go_wp2
  exact bodyPost_ret (results_none rfl _ _ _) rfl ⟨rfl, rfl⟩
/-- The thing is laid, and counted. -/
theorem push_end {w : World} {b o g n t : Nat} {cs : Array Value} {rs l : List Int} (h : Dq w b o cs g n t rs l) (hl : l.length < n) (x : Int) (q : Nat) :
    Dq (((w.drewN q).setCell ⟨g, (t + l.length) % n, none⟩ (Value.int .i64 x)).setCell ⟨b, o + 2, none⟩ (.int .i64 ((l.length : Int) + 1))) b o cs g n t (rs.set ((t + l.length) % n) x) (l ++ [x]) ∧
    Only (R2 b g) w (((w.drewN q).setCell ⟨g, (t + l.length) % n, none⟩ (Value.int .i64 x)).setCell ⟨b, o + 2, none⟩ (.int .i64 ((l.length : Int) + 1))) := by
  refine ⟨⟨?_, h.fit, ?_, h.ne, h.ring.push hl x, h.le⟩, (((Only.refl _ _).drewN q).setCell (p := ⟨g, _, none⟩) (.inl (.inr rfl)) _).setCell (p := ⟨b, o + 2, none⟩) (.inl (.inl rfl)) _⟩
  · have := is3_set2 ((h.box.drewN q).other (p := ⟨g, (t + l.length) % n, none⟩) (Ne.symm h.ne) (Value.int .i64 x)) (.int .i64 ((l.length : Int) + 1))
    refine this.eq ?_
    simp
  · have := ((h.row.drewN q).set ((t + l.length) % n) (Value.int .i64 x)).other (p := ⟨b, o + 2, none⟩) h.ne (.int .i64 ((l.length : Int) + 1))
    rw [cells_set] at this
    exact this
/-- There is room for one more. -/
def Room (w : World) (b o : Nat) (cs : Array Value) (S : Nat → Prop) (l : List Int) (W : World) : Prop := ∃ g n t rs, Dq W b o cs g n t rs l ∧ l.length < n ∧ (S g ∨ w.heap.size ≤ g) ∧ Only S w W
theorem resize_4 {w : World} {b o : Nat} {cs : Array Value} {l : List Int} (h : Is w b (put3 cs o (.slice none 0 0) (.int .i64 0) (.int .i64 0))) (hf : o + 3 ≤ cs.size) (hl : l = []) : Calls Try.prog 90 #[.pointer (some ⟨b, o, none⟩), .int .i64 4] w fun e w' => e = .returned (.tuple #[]) ∧ Room w b o cs (fun k => k = b) l w' := by
  subst hl
  refine (resize_sh (w := w) (s := .bare b o cs) (l := []) ⟨h, hf, rfl⟩ rfl 4 (by simp) (by omega) (by omega)).mono ?_
  rintro e w' ⟨rfl, h1, h2⟩
  exact ⟨rfl, _, _, _, _, h1, by simp, .inr (Nat.le_refl _), h2⟩
theorem resize_more {w : World} {b o g n t : Nat} {cs : Array Value} {rs l : List Int} (h : Dq w b o cs g n t rs l) (hl : l.length = n) (hn : n ≤ 400000) : Calls Try.prog 90 #[.pointer (some ⟨b, o, none⟩), .int .i64 (if 2 * (n : Int) < 4 then 4 else 2 * (n : Int))] w fun e w' => e = .returned (.tuple #[]) ∧ Room w b o cs (R2 b g) l w' := by
  have e : (if 2 * (n : Int) < 4 then 4 else 2 * (n : Int)) = ((if 2 * n < 4 then 4 else 2 * n : Nat) : Int) := by split <;> split <;> omega
  rw [e]
  have ht := h.ring.top
  refine (resize_sh (w := w) (s := .ring b o cs g n t rs) (l := l) h rfl _ (by split <;> omega) (by split <;> omega) (by split <;> omega)).mono ?_
  rintro e w' ⟨rfl, h1, h2⟩
  exact ⟨rfl, _, _, _, _, h1, by split <;> omega, .inr (Nat.le_refl _), h2.mono (fun k q => .inl q)⟩
set_option maxRecDepth 100000 in
set_option maxHeartbeats 2000000 in
theorem push_sh {w : World} {s : Sh} {l : List Int} (h : s.At w l) {b o : Nat} {cs : Array Value} (hp : s.place = some (b, o, cs)) (x : Int) (hl : l.length ≤ 400000) :
    Calls Try.prog 75 #[.pointer (some ⟨b, o, none⟩), (Value.int .i64 x)] w fun e w' => e = .returned (.tuple #[]) ∧ Turned w (b, o, cs) s.has (l ++ [x]) w' := by
  refine (callsIn_wide (n := 3)).1 ?_
  refine callsIn_of_wp Try.func75 rfl trivial ?_ rfl
  simp only [Try.ntmps75, List.size_toArray, List.length_cons, List.length_nil, Nat.reduceAdd, Nat.reduceSub, Array.replicate_succ, Array.replicate_zero, List.push_toArray, List.append_toArray, List.nil_append, List.cons_append]
  have HL := hide hl
  have HB0 := hide (Sh.box h hp).1
  cases s with
  | nil => cases hp
  | bare b' o' cs' =>
    cases hp
    obtain ⟨hb, hf, he⟩ := h
    have h0 : w.cell? ⟨b, o, none⟩ = some (.slice none 0 0) := (is3 hb hf).1
    have h2 : w.cell? ⟨b, o + 2, none⟩ = some (.int .i64 0) := (is3 hb hf).2.2
    have HR := hide (fun q => resize_4 (l := l) (hb.drewN q) hf he)
    clear hb hl hf he
    gi_wp2
    refine wpIn_region_quiet_lit rfl (by kernel_rfl) (by kernel_rfl) ?_
    repeat (first | (gi_big_quiet_step (fail)) | (refine BigFrame.wpQuietIn_want (fun _ _ _ _ => trivial) rfl ?_; intro K hK; gi_big_quiet_op; gi_big_quiet_call ((fail))))
    refine wpQuietIn_nil ?_
    rintro _ ⟨nq, rfl⟩
    gi_wp2_with (refine ⟨trivial, ?_⟩; gi_at_call 90; go_must ((with_reducible refine (callsIn_wide.2 ((Hid.out HR) nq)).mono ?_); rintro e W ⟨rfl, hR⟩; have HRoom : Hid (Room w b o cs (Sh.bare b o cs).has l W) := hide (by obtain ⟨g, n, t, rs, q1, q2, q3, q4⟩ := hR; exact ⟨g, n, t, rs, q1, q2, q3, ((Only.refl _ _).drewN nq).trans q4⟩); clear hR))
    clear HR h0 h2
    obtain ⟨g, n, t, rs, hD, hLT, hg, ho⟩ := HRoom.out
    have HD := hide hD
    have HLT := hide hLT
    have HG := hide hg
    have HO := hide ho
    clear hD hLT hg ho HRoom
    obtain ⟨m, hm⟩ : ∃ m, m = l.length := ⟨_, rfl⟩
    have HM := hide hm
    clear hm
    obtain ⟨h0, h1, h2⟩ := HD.out.cells
    rw [← HM.out] at h2
    have hlt := HLT.out
    rw [← HM.out] at hlt
    have hn := HD.out.le
    have hpn := HD.out.ring.lt m
    have h3 := HD.out.at_ hpn
    have hf := HD.out.row.frozen ((t + m) % n)
    have hf2 := HD.out.box.frozen (o + 2)
    have HE := hide (fun q => push_end HD.out HLT.out x q)
    have HA : Hid (∀ q : Nat, CallsIn Fence.wide (3 - 1) Try.prog 88 #[.pointer (some ⟨b, o, none⟩), .int .i64 (m : Int)] (W.drewN q) fun e w' => e = .returned (.int .i64 (((t + m) % n : Nat) : Int)) ∧ ∃ m', w' = (W.drewN q).drewN m') := hide (fun q => at_wide _ (HD.out.drewN q) m (by omega) _)
    rw [← HM.out] at HE
    obtain ⟨p, hp⟩ : ∃ p, p = (t + m) % n := ⟨_, rfl⟩
    rw [← hp] at hpn h3 hf HE HA
    obtain ⟨y, hy⟩ : ∃ y, y = rs.getD p (0 : Int) := ⟨_, rfl⟩
    rw [← hy] at h3
    have hpi : (p : Int) < n := by omega
    have hbg : ¬ g = b := fun e => HD.out.ne e.symm
    have hbg2 : ¬ b = g := HD.out.ne
    have hmi : (m : Int) ≤ 1000000 := by omega
    clear hp hy
    gi_wp2
    refine Round.wpIn_region_tail (F := Fence.wide) (Round.Grants.refl _ _ _) (by kernel_rfl) 12 rfl rfl (by kernel_rfl) (by kernel_rfl) (by kernel_rfl) (by kernel_rfl) (by kernel_rfl) (by kernel_rfl) ?_
    simp only [List.take, List.drop]
    repeat (first | (gi_big_quiet_step (fail)) | (refine BigFrame.wpQuietIn_want (fun _ _ _ _ => trivial) rfl ?_; intro K hK; gi_big_quiet_op; gi_big_quiet_call ((gi_at_call 88; exact CallsIn.quiet_of (HA.out _)))))
    refine wpQuietIn_nil ?_
    rintro _ ⟨nq, rfl⟩
    gi_wp2
    go_end0
    exact ⟨rfl, Turned.ring (HE.out nq).1 HB0.out HG.out (HO.out.trans' (HE.out nq).2 (fun i hi => by rcases hi with rfl | rfl; exact .inl HB0.out; exact HG.out))⟩
  | ring b' o' cs' g0 n0 t0 rs0 =>
    cases hp
    obtain ⟨h0, h1, h2⟩ := Dq.cells h
    have hn0 := Dq.le h
    have H := hide h
    by_cases hf : l.length = n0
    · have HR := hide (fun q => resize_more (Dq.drewN h q) hf (by omega))
      rw [hf] at h2
      clear hf h
      gi_wp2
      refine wpIn_region_quiet_lit rfl (by kernel_rfl) (by kernel_rfl) ?_
      repeat (first | (gi_big_quiet_step (fail)) | (refine BigFrame.wpQuietIn_want (fun _ _ _ _ => trivial) rfl ?_; intro K hK; gi_big_quiet_op; gi_big_quiet_call ((fail))))
      refine wpQuietIn_nil ?_
      rintro _ ⟨nq, rfl⟩
      gi_wp2_with (refine ⟨trivial, ?_⟩; gi_at_call 90; go_must ((with_reducible refine (callsIn_wide.2 ((Hid.out HR) nq)).mono ?_); rintro e W ⟨rfl, hR⟩; have HRoom : Hid (Room w b o cs (Sh.ring b o cs g0 n0 t0 rs0).has l W) := hide (by obtain ⟨g, n, t, rs, q1, q2, q3, q4⟩ := hR; exact ⟨g, n, t, rs, q1, q2, q3, ((Only.refl _ _).drewN nq).trans q4⟩); clear hR))
      all_goals
        clear HR h0 h1 h2 H
        obtain ⟨g, n, t, rs, hD, hLT, hg, ho⟩ := HRoom.out
        have HD := hide hD
        have HLT := hide hLT
        have HG := hide hg
        have HO := hide ho
        clear hD hLT hg ho HRoom
        obtain ⟨m, hm⟩ : ∃ m, m = l.length := ⟨_, rfl⟩
        have HM := hide hm
        clear hm
        obtain ⟨h0, h1, h2⟩ := HD.out.cells
        rw [← HM.out] at h2
        have hlt := HLT.out
        rw [← HM.out] at hlt
        have hn := HD.out.le
        have hpn := HD.out.ring.lt m
        have h3 := HD.out.at_ hpn
        have hf := HD.out.row.frozen ((t + m) % n)
        have hf2 := HD.out.box.frozen (o + 2)
        have HE := hide (fun q => push_end HD.out HLT.out x q)
        have HA : Hid (∀ q : Nat, CallsIn Fence.wide (3 - 1) Try.prog 88 #[.pointer (some ⟨b, o, none⟩), .int .i64 (m : Int)] (W.drewN q) fun e w' => e = .returned (.int .i64 (((t + m) % n : Nat) : Int)) ∧ ∃ m', w' = (W.drewN q).drewN m') := hide (fun q => at_wide _ (HD.out.drewN q) m (by omega) _)
        rw [← HM.out] at HE
        obtain ⟨p, hp⟩ : ∃ p, p = (t + m) % n := ⟨_, rfl⟩
        rw [← hp] at hpn h3 hf HE HA
        obtain ⟨y, hy⟩ : ∃ y, y = rs.getD p (0 : Int) := ⟨_, rfl⟩
        rw [← hy] at h3
        have hpi : (p : Int) < n := by omega
        have hbg : ¬ g = b := fun e => HD.out.ne e.symm
        have hbg2 : ¬ b = g := HD.out.ne
        have hmi : (m : Int) ≤ 1000000 := by omega
        clear hp hy
        gi_wp2
        refine Round.wpIn_region_tail (F := Fence.wide) (Round.Grants.refl _ _ _) (by kernel_rfl) 12 rfl rfl (by kernel_rfl) (by kernel_rfl) (by kernel_rfl) (by kernel_rfl) (by kernel_rfl) (by kernel_rfl) ?_
        simp only [List.take, List.drop]
        repeat (first | (gi_big_quiet_step (fail)) | (refine BigFrame.wpQuietIn_want (fun _ _ _ _ => trivial) rfl ?_; intro K hK; gi_big_quiet_op; gi_big_quiet_call ((gi_at_call 88; exact CallsIn.quiet_of (HA.out _)))))
        refine wpQuietIn_nil ?_
        rintro _ ⟨nq, rfl⟩
        gi_wp2
        go_end0
        exact ⟨rfl, Turned.ring (HE.out nq).1 HB0.out HG.out (HO.out.trans' (HE.out nq).2 (fun i hi => by rcases hi with rfl | rfl; exact .inl HB0.out; exact HG.out))⟩
    · have hc := (Dq.ring h).cnt
      obtain ⟨k, hk⟩ : ∃ k, k = l.length := ⟨_, rfl⟩
      have HK := hide hk
      rw [← hk] at h2 hf
      have hfi : ¬ (k : Int) = (n0 : Int) := by omega
      clear h hk
      gi_wp2
      refine wpIn_region_quiet_lit rfl (by kernel_rfl) (by kernel_rfl) ?_
      repeat (first | (gi_big_quiet_step (fail)) | (refine BigFrame.wpQuietIn_want (fun _ _ _ _ => trivial) rfl ?_; intro K hK; gi_big_quiet_op; gi_big_quiet_call ((fail))))
      refine wpQuietIn_nil ?_
      rintro _ ⟨nq, rfl⟩
      have HRoom : Hid (Room w b o cs (Sh.ring b o cs g0 n0 t0 rs0).has l (w.drewN nq)) := hide ⟨g0, n0, t0, rs0, Dq.drewN H.out nq, by have := HK.out; omega, .inl (.inr rfl), (Only.refl _ _).drewN nq⟩
      clear h0 h1 h2 H
      generalize w.drewN nq = W at *
      gi_wp2
      obtain ⟨g, n, t, rs, hD, hLT, hg, ho⟩ := HRoom.out
      have HD := hide hD
      have HLT := hide hLT
      have HG := hide hg
      have HO := hide ho
      clear hD hLT hg ho HRoom
      obtain ⟨m, hm⟩ : ∃ m, m = l.length := ⟨_, rfl⟩
      have HM := hide hm
      clear hm
      obtain ⟨h0, h1, h2⟩ := HD.out.cells
      rw [← HM.out] at h2
      have hlt := HLT.out
      rw [← HM.out] at hlt
      have hn := HD.out.le
      have hpn := HD.out.ring.lt m
      have h3 := HD.out.at_ hpn
      have hf := HD.out.row.frozen ((t + m) % n)
      have hf2 := HD.out.box.frozen (o + 2)
      have HE := hide (fun q => push_end HD.out HLT.out x q)
      have HA : Hid (∀ q : Nat, CallsIn Fence.wide (3 - 1) Try.prog 88 #[.pointer (some ⟨b, o, none⟩), .int .i64 (m : Int)] (W.drewN q) fun e w' => e = .returned (.int .i64 (((t + m) % n : Nat) : Int)) ∧ ∃ m', w' = (W.drewN q).drewN m') := hide (fun q => at_wide _ (HD.out.drewN q) m (by omega) _)
      rw [← HM.out] at HE
      obtain ⟨p, hp⟩ : ∃ p, p = (t + m) % n := ⟨_, rfl⟩
      rw [← hp] at hpn h3 hf HE HA
      obtain ⟨y, hy⟩ : ∃ y, y = rs.getD p (0 : Int) := ⟨_, rfl⟩
      rw [← hy] at h3
      have hpi : (p : Int) < n := by omega
      have hbg : ¬ g = b := fun e => HD.out.ne e.symm
      have hbg2 : ¬ b = g := HD.out.ne
      have hmi : (m : Int) ≤ 1000000 := by omega
      clear hp hy
      gi_wp2
      refine Round.wpIn_region_tail (F := Fence.wide) (Round.Grants.refl _ _ _) (by kernel_rfl) 12 rfl rfl (by kernel_rfl) (by kernel_rfl) (by kernel_rfl) (by kernel_rfl) (by kernel_rfl) (by kernel_rfl) ?_
      simp only [List.take, List.drop]
      repeat (first | (gi_big_quiet_step (fail)) | (refine BigFrame.wpQuietIn_want (fun _ _ _ _ => trivial) rfl ?_; intro K hK; gi_big_quiet_op; gi_big_quiet_call ((gi_at_call 88; exact CallsIn.quiet_of (HA.out _)))))
      refine wpQuietIn_nil ?_
      rintro _ ⟨nq, rfl⟩
      gi_wp2
      go_end0
      exact ⟨rfl, Turned.ring (HE.out nq).1 HB0.out HG.out (HO.out.trans' (HE.out nq).2 (fun i hi => by rcases hi with rfl | rfl; exact .inl HB0.out; exact HG.out))⟩
end Go.Proofs.Ytkjdjmcecjaolaa.DqI

/- What is at the bottom is taken; what is at the top. -/
namespace Go.Proofs.Ytkjdjmcecjaolaa.DqI
open Go.RowKit Go.Proofs.Ytkjdjmcecjaolaa.Dig Go.Proofs.Ytkjdjmcecjaolaa.Mem Go.Proofs.Ytkjdjmcecjaolaa.Dq Go.Proofs.Ytkjdjmcecjaolaa.Bit Go.Shelf
set_option linter.unusedVariables false
set_option linter.unusedSimpArgs false

theorem len_none {w : World} {s : Sh} (h : s.At w []) : Calls Try.prog 70 #[s.ptr] w fun e w' => e = .returned (.int .i64 0) ∧ w' = w := len_sh h
theorem steal_none {w : World} {s : Sh} (h : s.At w []) : Calls Try.prog 73 #[s.ptr] w fun e w' => e = .returned (.tuple #[(Value.int .i64 0), .bool false]) ∧ w' = w := by
  have HL := hide (len_none h)
  obtain ⟨q, hq⟩ := s.shape
  rw [hq] at HL ⊢
  clear h hq
  go_enter Try.func73, Try.ntmps73
  go_wp2_with (go_at_call 70; go_must ((with_reducible refine (Hid.out HL).mono ?_); rintro e w9 ⟨rfl, rfl⟩))
  refine bodyPost_ret (v := .tuple #[(Value.int .i64 0), .bool false]) (by simp [results, Try.results73, go_sem]) rfl ?_
  exact ⟨rfl, rfl⟩
set_option maxHeartbeats 1000000 in
theorem steal_dq {w : World} {b o g n t : Nat} {cs : Array Value} {rs l : List Int} {x : Int} (h : Dq w b o cs g n t rs (x :: l)) :
    Calls Try.prog 73 #[.pointer (some ⟨b, o, none⟩)] w fun e w' => e = .returned (.tuple #[(Value.int .i64 x), .bool true]) ∧ Turned w (b, o, cs) (R2 b g) l w' := by
  obtain ⟨k, hk⟩ : ∃ k, k = l.length + 1 := ⟨_, rfl⟩
  have hkl : (x :: l).length = k := by rw [hk]; simp
  have hc := h.ring.cnt
  have hn := h.le
  have ht := h.ring.top
  rw [hkl] at hc
  have HFT := hide h.fit
  obtain ⟨r1, r2⟩ := h.ring.steal (0 : Int)
  have c0 : w.cell? ⟨b, o + 2, none⟩ = some (.int .i64 (k : Int)) := by rw [← hkl]; exact h.cells.2.2
  have HL := hide (len_cell (k := (k : Int)) w c0)
  have HF := lift_dq w h 0 (by omega)
  have e0 : ((l.length : Nat) : Int) = (k : Int) - 1 := by omega
  rw [r2, hkl] at HF
  have HLF : Hid (Calls Try.prog 87 #[.pointer (some ⟨b, o, none⟩), .int .i64 0] w fun e w' => e = .returned (Value.int .i64 x) ∧
    Is w' b (put3 cs o (.slice (some ⟨g, 0, none⟩) n n) (.int .i64 (t : Int)) (.int .i64 (k : Int))) ∧ Is w' g (cellsOf (rs.set ((t + 0) % n) (0 : Int))) ∧ Only (fun k => k = g) w w') := hide HF
  obtain ⟨t', ht'⟩ : ∃ t', t' = (t + 1) % n := ⟨_, rfl⟩
  have HA : Hid (∀ w1 : World, Is w1 b (put3 cs o (.slice (some ⟨g, 0, none⟩) n n) (.int .i64 (t : Int)) (.int .i64 (k : Int))) → Calls Try.prog 88 #[.pointer (some ⟨b, o, none⟩), .int .i64 1] w1 fun e w' => e = .returned (.int .i64 (t' : Int)) ∧ ∃ m, w' = w1.drewN m) := hide (fun w1 q => by
    rw [ht']
    exact at_cells w1 (is3 q HFT.out).1 (is3 q HFT.out).2.1 ht hn 1 (by omega))
  have HK : Hid (∀ w1 : World, Is w1 b (put3 cs o (.slice (some ⟨g, 0, none⟩) n n) (.int .i64 (t : Int)) (.int .i64 (k : Int))) → Is w1 g (cellsOf (rs.set ((t + 0) % n) (0 : Int))) → Dq ((w1.setCell ⟨b, o + 1, none⟩ (.int .i64 (t' : Int))).setCell ⟨b, o + 2, none⟩ (.int .i64 ((k : Int) - 1))) b o cs g n t' (rs.set ((t + 0) % n) (0 : Int)) l) := hide (fun w1 q1 q2 =>
    ⟨by rw [e0]; exact is3_set2 (is3_set1 q1 _) _, h.fit, (q2.other (p := ⟨b, o + 1, none⟩) h.ne _).other (p := ⟨b, o + 2, none⟩) h.ne _, h.ne, by rw [ht']; exact r1, h.le⟩)
  have hki : (k : Int) ≤ 1000000 := by omega
  have hk1 : 1 ≤ (k : Int) := by omega
  have hk0 : ¬ (k : Int) = 0 := by omega
  clear h hk hkl r1 r2 HF e0 ht'
  go_enter Try.func73, Try.ntmps73
  go_wp2_with (first
    | (go_at_call 70; go_must ((with_reducible refine (Hid.out HL).mono ?_); rintro e w9 ⟨rfl, rfl⟩; clear HL))
    | (go_at_call 87; go_must ((with_reducible refine (Hid.out HLF).mono ?_); rintro e w1 ⟨rfl, q1, q2, q3⟩; have HI := hide q1; have HG := hide q2; have HO := hide q3; clear q1 q2 q3 HLF))
    | (go_at_call 88; go_must ((with_reducible refine ((Hid.out HA) _ HI.out).mono ?_); rintro e w2 ⟨rfl, m, rfl⟩; have c1 := (is3 (HI.out.drewN m) HFT.out).2.1; have c2 := (is3 (HI.out.drewN m) HFT.out).2.2; have f1 := (HI.out.drewN m).frozen (o + 1); have f2 := (HI.out.drewN m).frozen (o + 2); have HD := hide (HK.out _ (HI.out.drewN m) (HG.out.drewN m)); replace HO := hide (HO.out.drewN m); clear HI HG HA HK; generalize w1.drewN m = w2 at *))
    | (go_at_call 89; go_must ((with_reducible refine (shrink_dq HD.out).mono ?_); rintro e w3 ⟨rfl, q⟩; have HT := hide q; clear q)))
  refine bodyPost_ret (v := .tuple #[(Value.int .i64 x), .bool true]) (by simp [results, Try.results73, go_sem]) rfl ?_
  exact ⟨rfl, Turned.trans (((HO.out.mono (fun k q => .inr q)).setCell (p := ⟨b, o + 1, none⟩) (.inl (.inl rfl)) _).setCell (p := ⟨b, o + 2, none⟩) (.inl (.inl rfl)) _) (fun k q => .inl q) HT.out⟩
theorem steal_sh {w : World} {s : Sh} {l : List Int} {x : Int} (h : s.At w (x :: l)) {b o : Nat} {cs : Array Value} (hp : s.place = some (b, o, cs)) : Calls Try.prog 73 #[.pointer (some ⟨b, o, none⟩)] w fun e w' => e = .returned (.tuple #[(Value.int .i64 x), .bool true]) ∧ Turned w (b, o, cs) s.has l w' := by
  cases s with
  | nil => cases hp
  | bare b' o' cs' => have e : x :: l = [] := h.2.2; simp at e
  | ring b' o' cs' g n t rs => cases hp; exact steal_dq h
end Go.Proofs.Ytkjdjmcecjaolaa.DqI

/- A pipe as it lies: a deque in its first three cells, then the room, how many were sent, and whether it is closed; what each call of it does. -/
namespace Go.Proofs.Ytkjdjmcecjaolaa.DqI
open Go.RowKit Go.Proofs.Ytkjdjmcecjaolaa.Dig Go.Proofs.Ytkjdjmcecjaolaa.Mem Go.Proofs.Ytkjdjmcecjaolaa.Dq Go.Proofs.Ytkjdjmcecjaolaa.Bit Go.Proofs.Ytkjdjmcecjaolaa.Thing Go.Shelf
set_option linter.unusedVariables false
set_option linter.unusedSimpArgs false

/-- Another cell of a deque's block is turned. -/
theorem Sh.swap {w : World} {s : Sh} {l : List Int} (h : s.At w l) {b o : Nat} {cs : Array Value} (hp : s.place = some (b, o, cs)) {i : Nat} (hi : i < o ∨ o + 3 ≤ i) (u : Value) :
    ∃ s' : Sh, s'.At (w.setCell ⟨b, i, none⟩ u) l ∧ s'.place = some (b, o, cs.setIfInBounds i u) ∧ ∀ k, s'.has k ↔ s.has k := by
  cases s with
  | nil => cases hp
  | bare b' o' cs' =>
    cases hp
    obtain ⟨h1, h2, h3⟩ := h
    exact ⟨.bare b o (cs.setIfInBounds i u), ⟨by rw [← put3_swap hi]; exact h1.set i u, by simpa using h2, h3⟩, rfl, fun _ => Iff.rfl⟩
  | ring b' o' cs' g n t rs =>
    cases hp
    have h' : Dq w b o cs g n t rs l := h
    exact ⟨.ring b o (cs.setIfInBounds i u) g n t rs, ⟨by rw [← put3_swap hi]; exact h'.box.set i u, by simpa using h'.fit, h'.row.other (p := ⟨b, i, none⟩) h'.ne u, h'.ne, h'.ring, h'.le⟩, rfl, fun _ => Iff.rfl⟩
/-- The block's other cells: the room, how many were sent, and whether it is closed. -/
def pcs (r n : Nat) (c : Bool) : Array Value := #[undef, undef, undef, .int .i64 (r : Int), .int .i64 (n : Int), .bool c]
def pipeT (b : Nat) (r n : Nat) (c : Bool) (l : List Int) (s : Sh) : Th where
  P w := s.At w l ∧ s.place = some (b, 0, pcs r n c)
  F := s.has
  keep h ho hs := ⟨Sh.keep h.1 ho hs, h.2⟩
  lt h := Sh.lt h.1
section
variable {w : World} {b r n : Nat} {c : Bool} {l : List Int} {s : Sh} {x : Int}
theorem pipe_cells (h : (pipeT b r n c l s).P w) : (w.cell? ⟨b, 3, none⟩ = some (.int .i64 (r : Int)) ∧ w.cell? ⟨b, 4, none⟩ = some (.int .i64 (n : Int)) ∧ w.cell? ⟨b, 5, none⟩ = some (.bool c)) ∧ w.frozen? ⟨b, 4, none⟩ = false ∧ w.frozen? ⟨b, 5, none⟩ = false := by
  obtain ⟨h, hp⟩ := h
  obtain ⟨_, _, c0, c1, hI⟩ := Sh.box h hp
  exact ⟨⟨hI.cell 3 rfl, hI.cell 4 rfl, hI.cell 5 rfl⟩, hI.frozen 4, hI.frozen 5⟩
theorem pipe_drewN (h : (pipeT b r n c l s).P w) (m : Nat) : (pipeT b r n c l s).P (w.drewN m) := (pipeT b r n c l s).keep h ((Only.refl (fun _ => False) w).drewN m) (fun _ _ q => q)
/-- The count is turned. -/
theorem pipe_sent (h : (pipeT b r n c l s).P w) (m : Nat) : ∃ s', (pipeT b r m c l s').P (w.setCell ⟨b, 4, none⟩ (.int .i64 (m : Int))) ∧ ∀ k, s'.has k ↔ s.has k := by
  obtain ⟨s', h1, h2, h3⟩ := Sh.swap h.1 h.2 (i := 4) (.inr (by decide)) (.int .i64 (m : Int))
  exact ⟨s', ⟨h1, h2⟩, h3⟩
theorem pipe_shut (h : (pipeT b r n c l s).P w) (d : Bool) : ∃ s', (pipeT b r n d l s').P (w.setCell ⟨b, 5, none⟩ (.bool d)) ∧ ∀ k, s'.has k ↔ s.has k := by
  obtain ⟨s', h1, h2, h3⟩ := Sh.swap h.1 h.2 (i := 5) (.inr (by decide)) (.bool d)
  exact ⟨s', ⟨h1, h2⟩, h3⟩
theorem pipe_has (h : (pipeT b r n c l s).P w) : s.has b := (Sh.box h.1 h.2).1
theorem pipe_made (w : World) (r : Nat) (T : TypeId) {b : Nat} (hb : b = w.heap.size) : (pipeT b r 0 false [] (.bare b 0 (pcs r 0 false))).P (w.alloc (.cells #[.slice none 0 0, .int .i64 0, .int .i64 0, .int .i64 (r : Int), .int .i64 0, .bool false] T)) :=
  ⟨⟨Is.made w _ T hb, by simp [pcs], rfl⟩, rfl⟩
theorem plen (h : (pipeT b r n c l s).P w) : Calls Try.prog 59 #[.pointer (some ⟨b, 0, none⟩)] w fun e w' => e = .returned (.int .i64 (l.length : Int)) ∧ w' = w := by
  have HL := hide (len_sh h.1)
  rw [Sh.ptr_of h.2] at HL
  clear h
  go_enter Try.func59, Try.ntmps59
  go_wp2_with (go_at_call 70; go_must ((with_reducible refine (Hid.out HL).mono ?_); rintro e w9 ⟨rfl, rfl⟩))
  go_ret
  exact ⟨rfl, rfl⟩
theorem plen_nil (w : World) : Calls Try.prog 59 #[.pointer none] w fun e w' => e = .returned (.int .i64 0) ∧ w' = w := by
  go_enter Try.func59, Try.ntmps59
  go_wp2
  go_ret
  exact ⟨rfl, rfl⟩
theorem proom (h : (pipeT b r n c l s).P w) : Calls Try.prog 60 #[.pointer (some ⟨b, 0, none⟩)] w fun e w' => e = .returned (.int .i64 (r : Int)) ∧ w' = w := by
  obtain ⟨⟨h3, h4, h5⟩, _⟩ := pipe_cells h
  clear h
  go_enter Try.func60, Try.ntmps60
  go_wp2
  go_ret
  exact ⟨rfl, rfl⟩
theorem proom_nil (w : World) : Calls Try.prog 60 #[.pointer none] w fun e w' => e = .returned (.int .i64 0) ∧ w' = w := by
  go_enter Try.func60, Try.ntmps60
  go_wp2
  go_ret
  exact ⟨rfl, rfl⟩
theorem pclosed (h : (pipeT b r n c l s).P w) : Calls Try.prog 58 #[.pointer (some ⟨b, 0, none⟩)] w fun e w' => e = .returned (.bool c) ∧ w' = w := by
  obtain ⟨⟨h3, h4, h5⟩, _⟩ := pipe_cells h
  clear h
  go_enter Try.func58, Try.ntmps58
  go_wp2
  go_ret
  exact ⟨rfl, rfl⟩
theorem pclosed_nil (w : World) : Calls Try.prog 58 #[.pointer none] w fun e w' => e = .returned (.bool false) ∧ w' = w := by
  go_enter Try.func58, Try.ntmps58
  go_wp2
  go_ret
  exact ⟨rfl, rfl⟩
theorem pdone (h : (pipeT b r n c l s).P w) {d : Bool} (hd : d = (c && decide (l = []))) : Calls Try.prog 71 #[.pointer (some ⟨b, 0, none⟩)] w fun e w' => e = .returned (.bool d) ∧ w' = w := by
  have HC := hide (pclosed h)
  have HL := hide (plen h)
  have hm : decide (l = []) = decide (l.length = 0) := by cases l <;> simp
  rw [hm] at hd
  obtain ⟨m, hm⟩ : ∃ m, m = l.length := ⟨_, rfl⟩
  rw [← hm] at hd HL
  clear h hm
  cases c with
  | false =>
    obtain rfl : d = false := by simpa using hd
    clear hd
    go_enter Try.func71, Try.ntmps71
    go_wp2_with (first
      | (go_at_call 58; go_must ((with_reducible refine (Hid.out HC).mono ?_); rintro e w9 ⟨rfl, rfl⟩))
      | (go_at_call 59; go_must ((with_reducible refine (Hid.out HL).mono ?_); rintro e w9 ⟨rfl, rfl⟩)))
    go_ret
    exact ⟨rfl, rfl⟩
  | true =>
    by_cases h0 : m = 0
    · subst h0
      obtain rfl : d = true := by simpa using hd
      clear hd
      go_enter Try.func71, Try.ntmps71
      go_wp2_with (first
        | (go_at_call 58; go_must ((with_reducible refine (Hid.out HC).mono ?_); rintro e w9 ⟨rfl, rfl⟩))
        | (go_at_call 59; go_must ((with_reducible refine (Hid.out HL).mono ?_); rintro e w9 ⟨rfl, rfl⟩)))
      go_ret
      exact ⟨rfl, rfl⟩
    · obtain rfl : d = false := by simpa [h0] using hd
      have g0 : ((m : Int) == 0) = false := by simpa using h0
      clear hd h0
      go_enter Try.func71, Try.ntmps71
      go_wp2_with (first
        | (go_at_call 58; go_must ((with_reducible refine (Hid.out HC).mono ?_); rintro e w9 ⟨rfl, rfl⟩))
        | (go_at_call 59; go_must ((with_reducible refine (Hid.out HL).mono ?_); rintro e w9 ⟨rfl, rfl⟩)))
      go_ret
      exact ⟨rfl, rfl⟩
theorem pdone_nil (w : World) : Calls Try.prog 71 #[.pointer none] w fun e w' => e = .returned (.bool false) ∧ w' = w := by
  go_enter Try.func71, Try.ntmps71
  go_wp2_with (first
    | (go_at_call 58; go_must ((with_reducible refine (pclosed_nil _).mono ?_); rintro e w9 ⟨rfl, rfl⟩))
    | (go_at_call 59; go_must ((with_reducible refine (plen_nil _).mono ?_); rintro e w9 ⟨rfl, rfl⟩)))
  go_ret
  exact ⟨rfl, rfl⟩
/-- Why nothing may be done with a pipe. -/
def refE (r : Nat) (c : Bool) : Int := if r = 0 then 1 else if c then 11 else 0
theorem refuse_p (h : (pipeT b r n c l s).P w) {k : Int} (hk : k = refE r c) : Calls Try.prog 74 #[.pointer (some ⟨b, 0, none⟩)] w fun e w' => e = .returned (.int .i64 k) ∧ w' = w := by
  have HR := hide (proom h)
  obtain ⟨⟨h3, h4, h5⟩, _⟩ := pipe_cells h
  clear h h3 h4
  by_cases h0 : r = 0
  · subst h0
    obtain rfl : k = 1 := hk
    go_enter Try.func74, Try.ntmps74
    go_wp2_with (go_at_call 60; go_must ((with_reducible refine (Hid.out HR).mono ?_); rintro e w9 ⟨rfl, rfl⟩))
    go_ret
    exact ⟨rfl, rfl⟩
  · have g0 : ((r : Int) == 0) = false := by simpa using h0
    cases c with
    | true =>
      obtain rfl : k = 11 := by simpa [refE, h0] using hk
      clear h0 hk
      go_enter Try.func74, Try.ntmps74
      go_wp2_with (go_at_call 60; go_must ((with_reducible refine (Hid.out HR).mono ?_); rintro e w9 ⟨rfl, rfl⟩))
      go_ret
      exact ⟨rfl, rfl⟩
    | false =>
      obtain rfl : k = 0 := by simpa [refE, h0] using hk
      clear h0 hk
      go_enter Try.func74, Try.ntmps74
      go_wp2_with (go_at_call 60; go_must ((with_reducible refine (Hid.out HR).mono ?_); rintro e w9 ⟨rfl, rfl⟩))
      go_ret
      exact ⟨rfl, rfl⟩
theorem refuse_nil (w : World) : Calls Try.prog 74 #[.pointer none] w fun e w' => e = .returned (.int .i64 1) ∧ w' = w := by
  go_enter Try.func74, Try.ntmps74
  go_wp2_with (go_at_call 60; go_must ((with_reducible refine (proom_nil _).mono ?_); rintro e w9 ⟨rfl, rfl⟩))
  go_ret
  exact ⟨rfl, rfl⟩
theorem without_of {p : Value} {k : Int} (h : Calls Try.prog 74 #[p] w fun e w' => e = .returned (.int .i64 k) ∧ w' = w) : Calls Try.prog 72 #[p] w fun e w' => e = .returned (.int .i64 (if k = 0 then 10 else k)) ∧ w' = w := by
  have HR := hide h
  clear h
  by_cases h0 : k = 0
  · subst h0
    go_enter Try.func72, Try.ntmps72
    go_wp2_with (go_at_call 74; go_must ((with_reducible refine (Hid.out HR).mono ?_); rintro e w9 ⟨rfl, rfl⟩))
    go_ret
    exact ⟨rfl, rfl⟩
  · have g0 : (k != 0) = true := by simpa using h0
    rw [if_neg h0]
    clear h0
    go_enter Try.func72, Try.ntmps72
    go_wp2_with (go_at_call 74; go_must ((with_reducible refine (Hid.out HR).mono ?_); rintro e w9 ⟨rfl, rfl⟩))
    go_ret
    exact ⟨rfl, rfl⟩
/-- What a call leaves of a pipe. -/
def Now (w : World) (b r n : Nat) (c : Bool) (l : List Int) (S : Nat → Prop) (w' : World) : Prop := ∃ s', (pipeT b r n c l s').P w' ∧ (∀ k, s'.has k → S k ∨ w.heap.size ≤ k) ∧ Only S w w'
theorem send_not {p : Value} {k : Int} (hk : k ≠ 0) (x : Int) (h : Calls Try.prog 74 #[p] w fun e w' => e = .returned (.int .i64 k) ∧ w' = w) : Calls Try.prog 65 #[p, (Value.int .i64 x)] w fun e w' => e = .returned (.int .i64 k) ∧ w' = w := by
  have HR := hide h
  have g0 : (k != 0) = true := by simpa using hk
  clear h hk
  go_enter Try.func65, Try.ntmps65
  go_wp2_with (go_at_call 74; go_must ((with_reducible refine (Hid.out HR).mono ?_); rintro e w9 ⟨rfl, rfl⟩))
  go_ret
  exact ⟨rfl, rfl⟩
theorem send_full (h : (pipeT b r n false l s).P w) (hr : r ≠ 0) (hl : l.length = r) (x : Int) : Calls Try.prog 65 #[.pointer (some ⟨b, 0, none⟩), (Value.int .i64 x)] w fun e w' => e = .returned (.int .i64 9) ∧ ∃ m, w' = w.drewN m := by
  have HR := hide (refuse_p h (k := 0) (by simp [refE, hr]))
  have HL : Hid (∀ m, Calls Try.prog 59 #[.pointer (some ⟨b, 0, none⟩)] (w.drewN m) fun e w' => e = .returned (.int .i64 (r : Int)) ∧ w' = w.drewN m) := hide (fun m => by
    have := plen (pipe_drewN h m)
    rw [hl] at this
    exact this)
  obtain ⟨⟨h3, h4, h5⟩, _⟩ := pipe_cells h
  clear h h4 h5 hl
  go_enter Try.func65, Try.ntmps65
  go_wp2_with (go_at_call 74; go_must ((with_reducible refine (Hid.out HR).mono ?_); rintro e w9 ⟨rfl, rfl⟩))
  go_quiet ((go_at_call 59; exact Calls.quiet_of_same (HL.out _)))
  go_wp2
  go_ret
  exact ⟨rfl, _, rfl⟩
set_option maxHeartbeats 1000000 in
theorem send_ok (h : (pipeT b r n false l s).P w) (hr : r ≠ 0) (hr2 : r ≤ 64) (hl : l.length < r) (hn : n ≤ 1000000) (x : Int) : Calls Try.prog 65 #[.pointer (some ⟨b, 0, none⟩), (Value.int .i64 x)] w fun e w' => e = .returned (.int .i64 0) ∧ Now w b r (n + 1) false (l ++ [x]) s.has w' := by
  have HR := hide (refuse_p h (k := 0) (by simp [refE, hr]))
  obtain ⟨m, hm⟩ : ∃ m, m = l.length := ⟨_, rfl⟩
  have HL : Hid (∀ q, Calls Try.prog 59 #[.pointer (some ⟨b, 0, none⟩)] (w.drewN q) fun e w' => e = .returned (.int .i64 (m : Int)) ∧ w' = w.drewN q) := hide (fun q => by
    have := plen (pipe_drewN h q)
    rw [← hm] at this
    exact this)
  have HP := hide (fun q => push_sh (pipe_drewN h q).1 h.2 x (by omega))
  have HB := hide (pipe_has h)
  have g0 : ((m : Int) == (r : Int)) = false := by simp; omega
  obtain ⟨⟨h3, h4, h5⟩, _⟩ := pipe_cells h
  clear h h4 h5 hl hm
  go_enter Try.func65, Try.ntmps65
  go_wp2_with (go_at_call 74; go_must ((with_reducible refine (Hid.out HR).mono ?_); rintro e w9 ⟨rfl, rfl⟩))
  go_quiet ((go_at_call 59; exact Calls.quiet_of_same (HL.out _)))
  go_wp2_with (go_at_call 75; go_must ((with_reducible refine (Hid.out HP nq).mono ?_); rintro e w2 ⟨rfl, ⟨s2, q1, q2, q3⟩, q4⟩; have HQ : Hid ((pipeT b r n false (l ++ [x]) s2).P w2) := hide ⟨q1, q2⟩; have HF := hide q3; have HO := hide q4; obtain ⟨⟨_, h4, _⟩, f4, _⟩ := pipe_cells HQ.out; clear q1 q2 q3 q4))
  go_ret
  obtain ⟨s3, k1, k2⟩ := pipe_sent HQ.out (n + 1)
  refine ⟨rfl, s3, ?_, fun k hk => HF.out k ((k2 k).1 hk), (((Only.refl _ _).drewN nq).trans HO.out).setCell (p := ⟨b, 4, none⟩) (.inl HB.out) _⟩
  simpa using k1
theorem recv_none {p : Value} {k k' : Int} (h0 : Calls Try.prog 59 #[p] w fun e w' => e = .returned (.int .i64 0) ∧ w' = w) (h : Calls Try.prog 74 #[p] w fun e w' => e = .returned (.int .i64 k) ∧ w' = w) (hk : k' = if k = 0 then 10 else k) : Calls Try.prog 63 #[p] w fun e w' => e = .returned (.tuple #[(Value.int .i64 0), .int .i64 k']) ∧ w' = w := by
  have HL := hide h0
  have HW := hide (without_of h)
  rw [← hk] at HW
  clear h h0 hk
  go_enter Try.func63, Try.ntmps63
  go_wp2_with (first
    | (go_at_call 59; go_must ((with_reducible refine (Hid.out HL).mono ?_); rintro e w9 ⟨rfl, rfl⟩))
    | (go_at_call 72; go_must ((with_reducible refine (Hid.out HW).mono ?_); rintro e w9 ⟨rfl, rfl⟩)))
  refine bodyPost_ret (v := .tuple #[(Value.int .i64 0), .int .i64 k']) (by simp [results, Try.results63, go_sem]) rfl ?_
  exact ⟨rfl, rfl⟩
theorem recv_ok (h : (pipeT b r n c (x :: l) s).P w) : Calls Try.prog 63 #[.pointer (some ⟨b, 0, none⟩)] w fun e w' => e = .returned (.tuple #[(Value.int .i64 x), .int .i64 0]) ∧ Now w b r n c l s.has w' := by
  have HL := hide (plen h)
  have HS := hide (steal_sh h.1 h.2)
  obtain ⟨m, hm⟩ : ∃ m, m = (x :: l).length := ⟨_, rfl⟩
  rw [← hm] at HL
  have g0 : ((m : Int) == 0) = false := by rw [hm]; simp; omega
  clear h hm
  go_enter Try.func63, Try.ntmps63
  go_wp2_with (first
    | (go_at_call 59; go_must ((with_reducible refine (Hid.out HL).mono ?_); rintro e w9 ⟨rfl, rfl⟩))
    | (go_at_call 73; go_must ((with_reducible refine (Hid.out HS).mono ?_); rintro e w2 ⟨rfl, ⟨s2, q1, q2, q3⟩, q4⟩)))
  refine bodyPost_ret (v := .tuple #[(Value.int .i64 x), .int .i64 0]) (by simp [results, Try.results63, go_sem]) rfl ?_
  exact ⟨rfl, s2, ⟨q1, q2⟩, q3, q4⟩
theorem close_not {p : Value} {k : Int} (hk : k ≠ 0) (h : Calls Try.prog 74 #[p] w fun e w' => e = .returned (.int .i64 k) ∧ w' = w) : Calls Try.prog 64 #[p] w fun e w' => e = .returned (.int .i64 k) ∧ w' = w := by
  have HR := hide h
  have g0 : (k != 0) = true := by simpa using hk
  clear h hk
  go_enter Try.func64, Try.ntmps64
  go_wp2_with (go_at_call 74; go_must ((with_reducible refine (Hid.out HR).mono ?_); rintro e w9 ⟨rfl, rfl⟩))
  go_ret
  exact ⟨rfl, rfl⟩
theorem close_ok (h : (pipeT b r n false l s).P w) (hr : r ≠ 0) : Calls Try.prog 64 #[.pointer (some ⟨b, 0, none⟩)] w fun e w' => e = .returned (.int .i64 0) ∧ Now w b r n true l s.has w' := by
  have HR := hide (refuse_p h (k := 0) (by simp [refE, hr]))
  obtain ⟨⟨h3, h4, h5⟩, f4, f5⟩ := pipe_cells h
  have H := hide h
  clear h h3 h4 f4
  go_enter Try.func64, Try.ntmps64
  go_wp2_with (go_at_call 74; go_must ((with_reducible refine (Hid.out HR).mono ?_); rintro e w9 ⟨rfl, rfl⟩))
  go_ret
  obtain ⟨s3, k1, k2⟩ := pipe_shut H.out true
  exact ⟨rfl, s3, k1, fun k hk => .inl ((k2 k).1 hk), (Only.refl _ _).setCell (p := ⟨b, 5, none⟩) (.inl (pipe_has H.out)) _⟩
theorem new_ok (r : Nat) (h1 : 1 ≤ r) (h2 : r ≤ 64) (w : World) : Calls Try.prog 38 #[.int .i64 (r : Int)] w fun e w' => e = .returned (.tuple #[.pointer (some ⟨w.heap.size, 0, none⟩), .int .i64 0]) ∧ w' = w.alloc (.cells #[.slice none 0 0, .int .i64 0, .int .i64 0, .int .i64 (r : Int), .int .i64 0, .bool false] 106) := by
  have g1 : ¬ (r : Int) < 1 := by omega
  have g2 : ¬ (64 : Int) < (r : Int) := by omega
  go_enter Try.func38, Try.ntmps38
  go_wp2
  refine bodyPost_ret (v := .tuple #[.pointer (some ⟨w.heap.size, 0, none⟩), .int .i64 0]) (by simp [results, Try.results38, go_sem]) rfl ?_
  exact ⟨rfl, rfl⟩
theorem new_no (r : Int) (h : r < 1 ∨ 64 < r) (w : World) : Calls Try.prog 38 #[.int .i64 r] w fun e w' => e = .returned (.tuple #[.pointer none, .int .i64 2]) ∧ w' = w := by
  by_cases g1 : r < 1
  · go_enter Try.func38, Try.ntmps38
    go_wp2
    refine bodyPost_ret (v := .tuple #[.pointer none, .int .i64 2]) (by simp [results, Try.results38, go_sem]) rfl ?_
    exact ⟨rfl, rfl⟩
  · have g2 : (64 : Int) < r := by omega
    clear h
    go_enter Try.func38, Try.ntmps38
    go_wp2
    refine bodyPost_ret (v := .tuple #[.pointer none, .int .i64 2]) (by simp [results, Try.results38, go_sem]) rfl ?_
    exact ⟨rfl, rfl⟩
end
/-- A law's pipe, beside other things. -/
def PE (w : World) (b r n : Nat) (c : Bool) (l : List Int) (ts : List Th) (wx : World) : Prop := ∃ s, Kn w (pipeT b r n c l s :: ts) wx
section
variable {w wx w' : World} {b r n : Nat} {c : Bool} {l : List Int} {ts ts' : List Th} {x : Int}
theorem PE.kn (h : PE w b r n c l ts wx) : Kn w ts wx := let ⟨_, h⟩ := h; h.tail
theorem PE.below (h : PE w b r n c l ts wx) : Below w.heap.size w wx := h.kn.below
theorem PE.keep (h : PE w b r n c l ts wx) (hb : Below wx.heap.size wx w') : PE w b r n c l ts w' := let ⟨s, h⟩ := h; ⟨s, h.keep hb⟩
theorem PE.sub (h : PE w b r n c l ts wx) (hs : ts'.Sublist ts) : PE w b r n c l ts' wx := let ⟨s, h⟩ := h; ⟨s, h.sub (hs.cons_cons _)⟩
theorem PE.more {t : Th} (h : PE w b r n c l ts wx) (hb : Below wx.heap.size wx w') (hp : t.P w') (hf : ∀ k, t.F k → wx.heap.size ≤ k) : PE w b r n c l (t :: ts) w' := let ⟨s, h⟩ := h; ⟨s, (h.more hb hp hf).swap⟩
/-- Its neighbour is turned. -/
theorem PE.turn {t t' : Th} (h : PE w b r n c l (t :: ts) wx) (hp : t'.P w') (ho : Only t.F wx w') (hf : ∀ k, t'.F k → t.F k ∨ wx.heap.size ≤ k) : PE w b r n c l (t' :: ts) w' := let ⟨s, h⟩ := h; ⟨s, (h.swap.turn hp ho hf).swap⟩
theorem PE.perm (h : PE w b r n c l ts wx) (hs : ts.Perm ts') : PE w b r n c l ts' wx := let ⟨s, h⟩ := h; ⟨s, h.perm (hs.cons _)⟩
theorem PE.new (h : Kn w ts wx) (r : Nat) (T : TypeId) (hb : b = wx.heap.size) : PE w b r 0 false [] ts (wx.alloc (.cells #[.slice none 0 0, .int .i64 0, .int .i64 0, .int .i64 (r : Int), .int .i64 0, .bool false] T)) :=
  ⟨_, h.more ((Below.refl _ _).alloc (Nat.le_refl _) _) (pipe_made wx r T hb) (fun k hk => by cases hk; omega)⟩
theorem PE.now {l' : List Int} {n' : Nat} {c' : Bool} {s : Sh} (h : Kn w (pipeT b r n c l s :: ts) wx) (hn : Now wx b r n' c' l' s.has w') : PE w b r n' c' l' ts w' := let ⟨s', h1, h2, h3⟩ := hn; ⟨s', h.turn h1 h3 h2⟩
theorem lenP {m : Nat} (h : Hid (PE w b r n c l ts wx)) (hm : m = l.length) : Calls Try.prog 59 #[.pointer (some ⟨b, 0, none⟩)] wx fun e w' => e = .returned (.int .i64 (m : Int)) ∧ w' = wx := by
  subst hm
  obtain ⟨s, h⟩ := h.out
  exact plen h.hd
theorem roomP (h : Hid (PE w b r n c l ts wx)) : Calls Try.prog 60 #[.pointer (some ⟨b, 0, none⟩)] wx fun e w' => e = .returned (.int .i64 (r : Int)) ∧ w' = wx := by
  obtain ⟨s, h⟩ := h.out
  exact proom h.hd
theorem closedP (h : Hid (PE w b r n c l ts wx)) : Calls Try.prog 58 #[.pointer (some ⟨b, 0, none⟩)] wx fun e w' => e = .returned (.bool c) ∧ w' = wx := by
  obtain ⟨s, h⟩ := h.out
  exact pclosed h.hd
theorem doneP (h : Hid (PE w b r n c l ts wx)) {d : Bool} (hd : d = (c && decide (l = []))) : Calls Try.prog 71 #[.pointer (some ⟨b, 0, none⟩)] wx fun e w' => e = .returned (.bool d) ∧ w' = wx := by
  obtain ⟨s, h⟩ := h.out
  exact pdone h.hd hd
/-- Send: it is closed (or no call made it). -/
theorem sendP_not (h : Hid (PE w b r n c l ts wx)) {k : Int} (hk : k = refE r c) (h0 : k ≠ 0) (x : Int) : Calls Try.prog 65 #[.pointer (some ⟨b, 0, none⟩), (Value.int .i64 x)] wx fun e w' => e = .returned (.int .i64 k) ∧ Hid (PE w b r n c l ts w') := by
  obtain ⟨s, h⟩ := h.out
  refine (send_not h0 x (refuse_p h.hd hk)).mono ?_
  rintro e w' ⟨rfl, rfl⟩
  exact ⟨rfl, s, h⟩
theorem sendP_full (h : Hid (PE w b r n false l ts wx)) (hr : r ≠ 0) (hl : l.length = r) (x : Int) : Calls Try.prog 65 #[.pointer (some ⟨b, 0, none⟩), (Value.int .i64 x)] wx fun e w' => e = .returned (.int .i64 9) ∧ Hid (PE w b r n false l ts w') := by
  obtain ⟨s, h⟩ := h.out
  refine (send_full h.hd hr hl x).mono ?_
  rintro e w' ⟨rfl, m, rfl⟩
  exact ⟨rfl, s, h.drewN m⟩
theorem sendP (h : Hid (PE w b r n false l ts wx)) (hr : r ≠ 0) (hr2 : r ≤ 64) (hl : l.length < r) (hn : n ≤ 1000000) (x : Int) : Calls Try.prog 65 #[.pointer (some ⟨b, 0, none⟩), (Value.int .i64 x)] wx fun e w' => e = .returned (.int .i64 0) ∧ Hid (PE w b r (n + 1) false (l ++ [x]) ts w') := by
  obtain ⟨s, h⟩ := h.out
  refine (send_ok h.hd hr hr2 hl hn x).mono ?_
  rintro e w' ⟨rfl, q⟩
  exact ⟨rfl, PE.now h q⟩
theorem recvP_none (h : Hid (PE w b r n c l ts wx)) (hl : l = []) {k : Int} (hk : k = if refE r c = 0 then 10 else refE r c) : Calls Try.prog 63 #[.pointer (some ⟨b, 0, none⟩)] wx fun e w' => e = .returned (.tuple #[(Value.int .i64 0), .int .i64 k]) ∧ Hid (PE w b r n c l ts w') := by
  subst hl
  obtain ⟨s, h⟩ := h.out
  refine (recv_none (plen h.hd) (refuse_p h.hd rfl) hk).mono ?_
  rintro e w' ⟨rfl, rfl⟩
  exact ⟨rfl, s, h⟩
theorem recvP {l' : List Int} (h : Hid (PE w b r n c l ts wx)) (hl : l = x :: l') : Calls Try.prog 63 #[.pointer (some ⟨b, 0, none⟩)] wx fun e w' => e = .returned (.tuple #[(Value.int .i64 x), .int .i64 0]) ∧ Hid (PE w b r n c l' ts w') := by
  subst hl
  obtain ⟨s, h⟩ := h.out
  refine (recv_ok h.hd).mono ?_
  rintro e w' ⟨rfl, q⟩
  exact ⟨rfl, PE.now h q⟩
theorem closeP_not (h : Hid (PE w b r n c l ts wx)) {k : Int} (hk : k = refE r c) (h0 : k ≠ 0) : Calls Try.prog 64 #[.pointer (some ⟨b, 0, none⟩)] wx fun e w' => e = .returned (.int .i64 k) ∧ Hid (PE w b r n c l ts w') := by
  obtain ⟨s, h⟩ := h.out
  refine (close_not h0 (refuse_p h.hd hk)).mono ?_
  rintro e w' ⟨rfl, rfl⟩
  exact ⟨rfl, s, h⟩
theorem closeP (h : Hid (PE w b r n false l ts wx)) (hr : r ≠ 0) : Calls Try.prog 64 #[.pointer (some ⟨b, 0, none⟩)] wx fun e w' => e = .returned (.int .i64 0) ∧ Hid (PE w b r n true l ts w') := by
  obtain ⟨s, h⟩ := h.out
  refine (close_ok h.hd hr).mono ?_
  rintro e w' ⟨rfl, q⟩
  exact ⟨rfl, PE.now h q⟩
end
end Go.Proofs.Ytkjdjmcecjaolaa.DqI
