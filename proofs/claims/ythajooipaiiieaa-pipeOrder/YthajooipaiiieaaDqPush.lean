/- Something is put at the bottom. -/
import Derived.Test.YthajooipaiiieaaDqShrink
namespace Go.Proofs.Ythajooipaiiieaa.DqI
open Go.RowKit Go.Proofs.Ythajooipaiiieaa.Dig Go.Proofs.Ythajooipaiiieaa.Mem Go.Proofs.Ythajooipaiiieaa.Dq Go.Proofs.Ythajooipaiiieaa.Bit Go.Shelf
set_option linter.unusedVariables false
set_option linter.unusedSimpArgs false
attribute [local go_sem] Oper.semAt_some

theorem push_nil (x : Int) (w : World) : Calls Try.prog 31 #[.pointer none, (Value.int .i64 x)] w fun e w' => e = .returned (.tuple #[]) ∧ w' = w := by
  go_enter Try.func31, Try.ntmps31
  go_wp2
  exact bodyPost_ret (results_none rfl _ _ _) rfl ⟨rfl, rfl⟩
/-- The thing is laid, and counted. -/
theorem push_end {w : World} {b o g n t : Nat} {cs : Array Value} {rs l : List Int} (h : Dq w b o cs g n t rs l) (hl : l.length < n) (x : Int) (q : Nat) :
    Dq (((w.drewN q).setCell ⟨g, (t + l.length) % n, none⟩ (Value.int .i64 x)).setCell ⟨b, o + 2, none⟩ (.int .i64 ((l.length : Int) + 1))) b o cs g n t (rs.set ((t + l.length) % n) x) (l ++ [x]) ∧
    Only (R2 b g) w (((w.drewN q).setCell ⟨g, (t + l.length) % n, none⟩ (Value.int .i64 x)).setCell ⟨b, o + 2, none⟩ (.int .i64 ((l.length : Int) + 1))) := by
  refine ⟨⟨?_, h.fit, ?_, h.ne, h.ring.push hl x, h.le⟩, (((Only.refl _ _).drewN q).setCell (p := ⟨g, _, none⟩) (.inl (.inr rfl)) _).setCell (p := ⟨b, o + 2, none⟩) (.inl (.inl rfl)) _⟩
  · have := is3_set2 ((h.box.drewN q).other (p := ⟨g, (t + l.length) % n, none⟩) (Ne.symm h.ne) (Value.int .i64 x)) (.int .i64 ((l.length : Int) + 1))
    refine this.eq ?_
    simp
  · have := ((h.row.drewN q).set ((t + l.length) % n) (Value.int .i64 x)).other (p := ⟨b, o + 2, none⟩) h.ne (.int .i64 ((l.length : Int) + 1))
    rw [cells_set] at this
    exact this
/-- There is room for one more. -/
def Room (w : World) (b o : Nat) (cs : Array Value) (S : Nat → Prop) (l : List Int) (W : World) : Prop := ∃ g n t rs, Dq W b o cs g n t rs l ∧ l.length < n ∧ (S g ∨ w.heap.size ≤ g) ∧ Only S w W
theorem resize_4 {w : World} {b o : Nat} {cs : Array Value} {l : List Int} (h : Is w b (put3 cs o (.slice none 0 0) (.int .i64 0) (.int .i64 0))) (hf : o + 3 ≤ cs.size) (hl : l = []) : Calls Try.prog 42 #[.pointer (some ⟨b, o, none⟩), .int .i64 4] w fun e w' => e = .returned (.tuple #[]) ∧ Room w b o cs (fun k => k = b) l w' := by
  subst hl
  refine (resize_sh (w := w) (s := .bare b o cs) (l := []) ⟨h, hf, rfl⟩ rfl 4 (by simp) (by omega) (by omega)).mono ?_
  rintro e w' ⟨rfl, h1, h2⟩
  exact ⟨rfl, _, _, _, _, h1, by simp, .inr (Nat.le_refl _), h2⟩
theorem resize_more {w : World} {b o g n t : Nat} {cs : Array Value} {rs l : List Int} (h : Dq w b o cs g n t rs l) (hl : l.length = n) (hn : n ≤ 400000) : Calls Try.prog 42 #[.pointer (some ⟨b, o, none⟩), .int .i64 (if 2 * (n : Int) < 4 then 4 else 2 * (n : Int))] w fun e w' => e = .returned (.tuple #[]) ∧ Room w b o cs (R2 b g) l w' := by
  have e : (if 2 * (n : Int) < 4 then 4 else 2 * (n : Int)) = ((if 2 * n < 4 then 4 else 2 * n : Nat) : Int) := by split <;> split <;> omega
  rw [e]
  have ht := h.ring.top
  refine (resize_sh (w := w) (s := .ring b o cs g n t rs) (l := l) h rfl _ (by split <;> omega) (by split <;> omega) (by split <;> omega)).mono ?_
  rintro e w' ⟨rfl, h1, h2⟩
  exact ⟨rfl, _, _, _, _, h1, by split <;> omega, .inr (Nat.le_refl _), h2.mono (fun k q => .inl q)⟩
set_option maxRecDepth 100000 in
set_option maxHeartbeats 2000000 in
theorem push_sh {w : World} {s : Sh} {l : List Int} (h : s.At w l) {b o : Nat} {cs : Array Value} (hp : s.place = some (b, o, cs)) (x : Int) (hl : l.length ≤ 400000) :
    Calls Try.prog 31 #[.pointer (some ⟨b, o, none⟩), (Value.int .i64 x)] w fun e w' => e = .returned (.tuple #[]) ∧ Turned w (b, o, cs) s.has (l ++ [x]) w' := by
  refine (callsIn_wide (n := 3)).1 ?_
  refine callsIn_of_wp Try.func31 rfl trivial ?_ rfl
  simp only [Try.ntmps31, List.size_toArray, List.length_cons, List.length_nil, Nat.reduceAdd, Nat.reduceSub, Array.replicate_succ, Array.replicate_zero, List.push_toArray, List.append_toArray, List.nil_append, List.cons_append]
  have HL := hide hl
  have HB0 := hide (Sh.box h hp).1
  cases s with
  | nil => cases hp
  | bare b' o' cs' =>
    cases hp
    obtain ⟨hb, hf, he⟩ := h
    have h0 : w.cell? ⟨b, o, none⟩ = some (.slice none 0 0) := (is3 hb hf).1
    have h2 : w.cell? ⟨b, o + 2, none⟩ = some (.int .i64 0) := (is3 hb hf).2.2
    have HR := hide (fun q => resize_4 (l := l) (hb.drewN q) hf he)
    clear hb hl hf he
    gi_wp2
    refine wpIn_region_quiet_lit rfl (by kernel_rfl) (by kernel_rfl) ?_
    repeat (first | (gi_big_quiet_step (fail)) | (refine BigFrame.wpQuietIn_want (fun _ _ _ _ => trivial) rfl ?_; intro K hK; gi_big_quiet_op; gi_big_quiet_call ((fail))))
    refine wpQuietIn_nil ?_
    rintro _ ⟨nq, rfl⟩
    gi_wp2_with (refine ⟨trivial, ?_⟩; gi_at_call 42; go_must ((with_reducible refine (callsIn_wide.2 ((Hid.out HR) nq)).mono ?_); rintro e W ⟨rfl, hR⟩; have HRoom : Hid (Room w b o cs (Sh.bare b o cs).has l W) := hide (by obtain ⟨g, n, t, rs, q1, q2, q3, q4⟩ := hR; exact ⟨g, n, t, rs, q1, q2, q3, ((Only.refl _ _).drewN nq).trans q4⟩); clear hR))
    clear HR h0 h2
    obtain ⟨g, n, t, rs, hD, hLT, hg, ho⟩ := HRoom.out
    have HD := hide hD
    have HLT := hide hLT
    have HG := hide hg
    have HO := hide ho
    clear hD hLT hg ho HRoom
    obtain ⟨m, hm⟩ : ∃ m, m = l.length := ⟨_, rfl⟩
    have HM := hide hm
    clear hm
    obtain ⟨h0, h1, h2⟩ := HD.out.cells
    rw [← HM.out] at h2
    have hlt := HLT.out
    rw [← HM.out] at hlt
    have hn := HD.out.le
    have hpn := HD.out.ring.lt m
    have h3 := HD.out.at_ hpn
    have hf := HD.out.row.frozen ((t + m) % n)
    have hf2 := HD.out.box.frozen (o + 2)
    have HE := hide (fun q => push_end HD.out HLT.out x q)
    have HA : Hid (∀ q : Nat, CallsIn Fence.wide (3 - 1) Try.prog 40 #[.pointer (some ⟨b, o, none⟩), .int .i64 (m : Int)] (W.drewN q) fun e w' => e = .returned (.int .i64 (((t + m) % n : Nat) : Int)) ∧ ∃ m', w' = (W.drewN q).drewN m') := hide (fun q => at_wide _ (HD.out.drewN q) m (by omega) _)
    rw [← HM.out] at HE
    obtain ⟨p, hp⟩ : ∃ p, p = (t + m) % n := ⟨_, rfl⟩
    rw [← hp] at hpn h3 hf HE HA
    obtain ⟨y, hy⟩ : ∃ y, y = rs.getD p (0 : Int) := ⟨_, rfl⟩
    rw [← hy] at h3
    have hpi : (p : Int) < n := by omega
    have hbg : ¬ g = b := fun e => HD.out.ne e.symm
    have hbg2 : ¬ b = g := HD.out.ne
    have hmi : (m : Int) ≤ 1000000 := by omega
    clear hp hy
    gi_wp2
    refine Round.wpIn_region_tail (F := Fence.wide) (Round.Grants.refl _ _ _) (by kernel_rfl) 12 rfl rfl (by kernel_rfl) (by kernel_rfl) (by kernel_rfl) (by kernel_rfl) (by kernel_rfl) (by kernel_rfl) ?_
    simp only [List.take, List.drop]
    repeat (first | (gi_big_quiet_step (fail)) | (refine BigFrame.wpQuietIn_want (fun _ _ _ _ => trivial) rfl ?_; intro K hK; gi_big_quiet_op; gi_big_quiet_call ((gi_at_call 40; exact CallsIn.quiet_of (HA.out _)))))
    refine wpQuietIn_nil ?_
    rintro _ ⟨nq, rfl⟩
    gi_wp2
    go_end0
    exact ⟨rfl, Turned.ring (HE.out nq).1 HB0.out HG.out (HO.out.trans' (HE.out nq).2 (fun i hi => by rcases hi with rfl | rfl; exact .inl HB0.out; exact HG.out))⟩
  | ring b' o' cs' g0 n0 t0 rs0 =>
    cases hp
    obtain ⟨h0, h1, h2⟩ := Dq.cells h
    have hn0 := Dq.le h
    have H := hide h
    by_cases hf : l.length = n0
    · have HR := hide (fun q => resize_more (Dq.drewN h q) hf (by omega))
      rw [hf] at h2
      clear hf h
      gi_wp2
      refine wpIn_region_quiet_lit rfl (by kernel_rfl) (by kernel_rfl) ?_
      repeat (first | (gi_big_quiet_step (fail)) | (refine BigFrame.wpQuietIn_want (fun _ _ _ _ => trivial) rfl ?_; intro K hK; gi_big_quiet_op; gi_big_quiet_call ((fail))))
      refine wpQuietIn_nil ?_
      rintro _ ⟨nq, rfl⟩
      gi_wp2_with (refine ⟨trivial, ?_⟩; gi_at_call 42; go_must ((with_reducible refine (callsIn_wide.2 ((Hid.out HR) nq)).mono ?_); rintro e W ⟨rfl, hR⟩; have HRoom : Hid (Room w b o cs (Sh.ring b o cs g0 n0 t0 rs0).has l W) := hide (by obtain ⟨g, n, t, rs, q1, q2, q3, q4⟩ := hR; exact ⟨g, n, t, rs, q1, q2, q3, ((Only.refl _ _).drewN nq).trans q4⟩); clear hR))
      all_goals
        clear HR h0 h1 h2 H
        obtain ⟨g, n, t, rs, hD, hLT, hg, ho⟩ := HRoom.out
        have HD := hide hD
        have HLT := hide hLT
        have HG := hide hg
        have HO := hide ho
        clear hD hLT hg ho HRoom
        obtain ⟨m, hm⟩ : ∃ m, m = l.length := ⟨_, rfl⟩
        have HM := hide hm
        clear hm
        obtain ⟨h0, h1, h2⟩ := HD.out.cells
        rw [← HM.out] at h2
        have hlt := HLT.out
        rw [← HM.out] at hlt
        have hn := HD.out.le
        have hpn := HD.out.ring.lt m
        have h3 := HD.out.at_ hpn
        have hf := HD.out.row.frozen ((t + m) % n)
        have hf2 := HD.out.box.frozen (o + 2)
        have HE := hide (fun q => push_end HD.out HLT.out x q)
        have HA : Hid (∀ q : Nat, CallsIn Fence.wide (3 - 1) Try.prog 40 #[.pointer (some ⟨b, o, none⟩), .int .i64 (m : Int)] (W.drewN q) fun e w' => e = .returned (.int .i64 (((t + m) % n : Nat) : Int)) ∧ ∃ m', w' = (W.drewN q).drewN m') := hide (fun q => at_wide _ (HD.out.drewN q) m (by omega) _)
        rw [← HM.out] at HE
        obtain ⟨p, hp⟩ : ∃ p, p = (t + m) % n := ⟨_, rfl⟩
        rw [← hp] at hpn h3 hf HE HA
        obtain ⟨y, hy⟩ : ∃ y, y = rs.getD p (0 : Int) := ⟨_, rfl⟩
        rw [← hy] at h3
        have hpi : (p : Int) < n := by omega
        have hbg : ¬ g = b := fun e => HD.out.ne e.symm
        have hbg2 : ¬ b = g := HD.out.ne
        have hmi : (m : Int) ≤ 1000000 := by omega
        clear hp hy
        gi_wp2
        refine Round.wpIn_region_tail (F := Fence.wide) (Round.Grants.refl _ _ _) (by kernel_rfl) 12 rfl rfl (by kernel_rfl) (by kernel_rfl) (by kernel_rfl) (by kernel_rfl) (by kernel_rfl) (by kernel_rfl) ?_
        simp only [List.take, List.drop]
        repeat (first | (gi_big_quiet_step (fail)) | (refine BigFrame.wpQuietIn_want (fun _ _ _ _ => trivial) rfl ?_; intro K hK; gi_big_quiet_op; gi_big_quiet_call ((gi_at_call 40; exact CallsIn.quiet_of (HA.out _)))))
        refine wpQuietIn_nil ?_
        rintro _ ⟨nq, rfl⟩
        gi_wp2
        go_end0
        exact ⟨rfl, Turned.ring (HE.out nq).1 HB0.out HG.out (HO.out.trans' (HE.out nq).2 (fun i hi => by rcases hi with rfl | rfl; exact .inl HB0.out; exact HG.out))⟩
    · have hc := (Dq.ring h).cnt
      obtain ⟨k, hk⟩ : ∃ k, k = l.length := ⟨_, rfl⟩
      have HK := hide hk
      rw [← hk] at h2 hf
      have hfi : ¬ (k : Int) = (n0 : Int) := by omega
      clear h hk
      gi_wp2
      refine wpIn_region_quiet_lit rfl (by kernel_rfl) (by kernel_rfl) ?_
      repeat (first | (gi_big_quiet_step (fail)) | (refine BigFrame.wpQuietIn_want (fun _ _ _ _ => trivial) rfl ?_; intro K hK; gi_big_quiet_op; gi_big_quiet_call ((fail))))
      refine wpQuietIn_nil ?_
      rintro _ ⟨nq, rfl⟩
      have HRoom : Hid (Room w b o cs (Sh.ring b o cs g0 n0 t0 rs0).has l (w.drewN nq)) := hide ⟨g0, n0, t0, rs0, Dq.drewN H.out nq, by have := HK.out; omega, .inl (.inr rfl), (Only.refl _ _).drewN nq⟩
      clear h0 h1 h2 H
      generalize w.drewN nq = W at *
      gi_wp2
      obtain ⟨g, n, t, rs, hD, hLT, hg, ho⟩ := HRoom.out
      have HD := hide hD
      have HLT := hide hLT
      have HG := hide hg
      have HO := hide ho
      clear hD hLT hg ho HRoom
      obtain ⟨m, hm⟩ : ∃ m, m = l.length := ⟨_, rfl⟩
      have HM := hide hm
      clear hm
      obtain ⟨h0, h1, h2⟩ := HD.out.cells
      rw [← HM.out] at h2
      have hlt := HLT.out
      rw [← HM.out] at hlt
      have hn := HD.out.le
      have hpn := HD.out.ring.lt m
      have h3 := HD.out.at_ hpn
      have hf := HD.out.row.frozen ((t + m) % n)
      have hf2 := HD.out.box.frozen (o + 2)
      have HE := hide (fun q => push_end HD.out HLT.out x q)
      have HA : Hid (∀ q : Nat, CallsIn Fence.wide (3 - 1) Try.prog 40 #[.pointer (some ⟨b, o, none⟩), .int .i64 (m : Int)] (W.drewN q) fun e w' => e = .returned (.int .i64 (((t + m) % n : Nat) : Int)) ∧ ∃ m', w' = (W.drewN q).drewN m') := hide (fun q => at_wide _ (HD.out.drewN q) m (by omega) _)
      rw [← HM.out] at HE
      obtain ⟨p, hp⟩ : ∃ p, p = (t + m) % n := ⟨_, rfl⟩
      rw [← hp] at hpn h3 hf HE HA
      obtain ⟨y, hy⟩ : ∃ y, y = rs.getD p (0 : Int) := ⟨_, rfl⟩
      rw [← hy] at h3
      have hpi : (p : Int) < n := by omega
      have hbg : ¬ g = b := fun e => HD.out.ne e.symm
      have hbg2 : ¬ b = g := HD.out.ne
      have hmi : (m : Int) ≤ 1000000 := by omega
      clear hp hy
      gi_wp2
      refine Round.wpIn_region_tail (F := Fence.wide) (Round.Grants.refl _ _ _) (by kernel_rfl) 12 rfl rfl (by kernel_rfl) (by kernel_rfl) (by kernel_rfl) (by kernel_rfl) (by kernel_rfl) (by kernel_rfl) ?_
      simp only [List.take, List.drop]
      repeat (first | (gi_big_quiet_step (fail)) | (refine BigFrame.wpQuietIn_want (fun _ _ _ _ => trivial) rfl ?_; intro K hK; gi_big_quiet_op; gi_big_quiet_call ((gi_at_call 40; exact CallsIn.quiet_of (HA.out _)))))
      refine wpQuietIn_nil ?_
      rintro _ ⟨nq, rfl⟩
      gi_wp2
      go_end0
      exact ⟨rfl, Turned.ring (HE.out nq).1 HB0.out HG.out (HO.out.trans' (HE.out nq).2 (fun i hi => by rcases hi with rfl | rfl; exact .inl HB0.out; exact HG.out))⟩
end Go.Proofs.Ythajooipaiiieaa.DqI
