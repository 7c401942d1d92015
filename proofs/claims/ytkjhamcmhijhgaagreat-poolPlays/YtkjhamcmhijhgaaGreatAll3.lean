/- Joined out of the texts DqsShrink, DqsPush, DqsPop, DigBack, App, DqRow, in that order. -/
import Derived.Test.YtkjhamcmhijhgaaGreatAll2
import Derived.Test.YtkjhamcmhijhgaaGreatAll1
import Derived.Laws.AppendOwnNone
import Derived.Lib.AppendStr
import Derived.Laws.MakeOwn
import Derived.Laws.OwnMore
/- A ring that is far too great is halved. -/
namespace Go.Proofs.YtkjhamcmhijhgaaGreat.DqS
open Go.RowKit Go.Proofs.YtkjhamcmhijhgaaGreat.Dig Go.Proofs.YtkjhamcmhijhgaaGreat.Mem Go.Proofs.YtkjhamcmhijhgaaGreat.Dq Go.Proofs.YtkjhamcmhijhgaaGreat.Bit Go.Shelf
set_option linter.unusedVariables false
set_option linter.unusedSimpArgs false
attribute [local go_sem] Oper.semAt_some

/-- The deque at P has become l': nothing else has turned but what was the deque's; the block's other cells are as they were. -/
structure Turned (w : World) (P : Nat × Nat × Array Value) (S : Nat → Prop) (l' : List (List UInt8)) (w' : World) : Prop where
  now : ∃ s' : Sh, s'.At w' l' ∧ s'.place = some P ∧ ∀ k, s'.has k → S k ∨ w.heap.size ≤ k
  only : Only S w w'
theorem Turned.trans {w w1 w2 : World} {P : Nat × Nat × Array Value} {S : Nat → Prop} {l2 : List (List UInt8)} (ho : Only S w w1) {S1 : Nat → Prop} (hs : ∀ k, S1 k → S k ∨ w.heap.size ≤ k) (h : Turned w1 P S1 l2 w2) : Turned w P S l2 w2 := by
  obtain ⟨⟨s', h1, h2, h3⟩, h4⟩ := h
  refine ⟨⟨s', h1, h2, fun k hk => ?_⟩, ho.trans' h4 hs⟩
  rcases h3 k hk with q | q
  · exact hs k q
  · exact .inr (Nat.le_trans ho.size q)
theorem Turned.ring {w w' : World} {b o g n t : Nat} {cs : Array Value} {rs l : List (List UInt8)} {S : Nat → Prop} (h : Dq w' b o cs g n t rs l) (hb : S b) (hg : S g ∨ w.heap.size ≤ g) (ho : Only S w w') : Turned w (b, o, cs) S l w' :=
  ⟨⟨.ring b o cs g n t rs, h, rfl, fun k hk => by
    rcases hk with rfl | rfl
    · exact .inl hb
    · exact hg⟩, ho⟩
def R2 (b g : Nat) (k : Nat) : Prop := k = b ∨ k = g
set_option maxRecDepth 100000 in
set_option maxHeartbeats 1000000 in
theorem shrink_dq {w : World} {b o g n t : Nat} {cs : Array Value} {rs l : List (List UInt8)} (h : Dq w b o cs g n t rs l) :
    Calls Tryz.prog 81 #[.pointer (some ⟨b, o, none⟩)] w fun e w' => e = .returned (.tuple #[]) ∧ Turned w (b, o, cs) (R2 b g) l w' := by
  obtain ⟨h0, h1, h2⟩ := h.cells
  have hn := h.le
  have hc := h.ring.cnt
  have ht := h.ring.top
  have HD := hide h
  obtain ⟨m, hm⟩ : ∃ m, m = l.length := ⟨_, rfl⟩
  have HM := hide hm
  rw [← hm] at h2 hc
  have hq4 : (n : Int).tdiv 4 = ((n / 4 : Nat) : Int) := by rw [Int.tdiv_eq_ediv_of_nonneg (by omega)]; rfl
  have hq2 : (n : Int).tdiv 2 = ((n / 2 : Nat) : Int) := by rw [Int.tdiv_eq_ediv_of_nonneg (by omega)]; rfl
  clear h hm h1
  by_cases e1 : 4 < n
  · by_cases e2 : m ≤ n / 4
    · have HR := hide (fun W (hW : Dq W b o cs g n t rs l) => resize_sh (w := W) (s := .ring b o cs g n t rs) (l := l) hW rfl (n / 2) (by rw [← HM.out]; omega) (by omega) (by omega))
      obtain ⟨q, hq⟩ : ∃ q, q = n / 4 := ⟨_, rfl⟩
      obtain ⟨q', hq'⟩ : ∃ q', q' = n / 2 := ⟨_, rfl⟩
      rw [← hq] at hq4 e2
      rw [← hq'] at hq2 HR
      have e1i : (4 : Int) < n := by omega
      have e2i : (m : Int) ≤ (n : Int) / 4 := by omega
      have e3i : (n : Int) / 2 = q' := by omega
      have e4i : (n : Int) / 4 = q := by omega
      clear e1 e2 hq hq'
      go_enter Tryz.func81, Tryz.ntmps81
      go_wp2
      go_quiet (fail)
      go_wp2_with (go_at_call 64; go_must ((with_reducible refine ((Hid.out HR) _ (HD.out.drewN nq)).mono ?_); rintro e w9 ⟨rfl, hb9, ho9⟩; have HB9 := hide hb9; have HO9 := hide ho9; clear hb9 ho9))
      go_end0
      exact ⟨rfl, Turned.ring HB9.out (.inl rfl) (.inr (by exact Nat.le_refl _)) (((Only.refl _ _).drewN nq).trans (HO9.out.mono (fun k e => .inl e)))⟩
    · have e1i : (4 : Int) < n := by omega
      have e2i : decide ((m : Int) ≤ (n : Int) / 4) = false := decide_eq_false (by omega)
      clear e1 e2
      go_enter Tryz.func81, Tryz.ntmps81
      go_wp2
      go_quiet (fail)
      go_wp2
      go_end0
      exact ⟨rfl, Turned.ring (HD.out.drewN nq) (.inl rfl) (.inl (.inr rfl)) ((Only.refl _ _).drewN nq)⟩
  · have e1i : decide ((4 : Int) < n) = false := decide_eq_false (by omega)
    clear e1
    go_enter Tryz.func81, Tryz.ntmps81
    go_wp2
    go_quiet (fail)
    go_wp2
    go_end0
    exact ⟨rfl, Turned.ring (HD.out.drewN nq) (.inl rfl) (.inl (.inr rfl)) ((Only.refl _ _).drewN nq)⟩
end Go.Proofs.YtkjhamcmhijhgaaGreat.DqS

/- Something is put at the bottom. -/
namespace Go.Proofs.YtkjhamcmhijhgaaGreat.DqS
open Go.RowKit Go.Proofs.YtkjhamcmhijhgaaGreat.Dig Go.Proofs.YtkjhamcmhijhgaaGreat.Mem Go.Proofs.YtkjhamcmhijhgaaGreat.Dq Go.Proofs.YtkjhamcmhijhgaaGreat.Bit Go.Shelf
set_option linter.unusedVariables false
set_option linter.unusedSimpArgs false
attribute [local go_sem] Oper.semAt_some

theorem push_nil (x : (List UInt8)) (w : World) : Calls Tryz.prog 41 #[.pointer none, (Value.string ⟨x.toArray⟩)] w fun e w' => e = .returned (.tuple #[]) ∧ w' = w := by
  go_enter Tryz.func41, Tryz.ntmps41
  go_wp2
  exact bodyPost_ret (results_none rfl _ _ _) rfl ⟨rfl, rfl⟩
/-- The thing is laid, and counted. -/
theorem push_end {w : World} {b o g n t : Nat} {cs : Array Value} {rs l : List (List UInt8)} (h : Dq w b o cs g n t rs l) (hl : l.length < n) (x : (List UInt8)) (q : Nat) :
    Dq (((w.drewN q).setCell ⟨g, (t + l.length) % n, none⟩ (Value.string ⟨x.toArray⟩)).setCell ⟨b, o + 2, none⟩ (.int .i64 ((l.length : Int) + 1))) b o cs g n t (rs.set ((t + l.length) % n) x) (l ++ [x]) ∧
    Only (R2 b g) w (((w.drewN q).setCell ⟨g, (t + l.length) % n, none⟩ (Value.string ⟨x.toArray⟩)).setCell ⟨b, o + 2, none⟩ (.int .i64 ((l.length : Int) + 1))) := by
  refine ⟨⟨?_, h.fit, ?_, h.ne, h.ring.push hl x, h.le⟩, (((Only.refl _ _).drewN q).setCell (p := ⟨g, _, none⟩) (.inl (.inr rfl)) _).setCell (p := ⟨b, o + 2, none⟩) (.inl (.inl rfl)) _⟩
  · have := is3_set2 ((h.box.drewN q).other (p := ⟨g, (t + l.length) % n, none⟩) (Ne.symm h.ne) (Value.string ⟨x.toArray⟩)) (.int .i64 ((l.length : Int) + 1))
    refine this.eq ?_
    simp
  · have := ((h.row.drewN q).set ((t + l.length) % n) (Value.string ⟨x.toArray⟩)).other (p := ⟨b, o + 2, none⟩) h.ne (.int .i64 ((l.length : Int) + 1))
    rw [cells_set] at this
    exact this
/-- There is room for one more. -/
def Room (w : World) (b o : Nat) (cs : Array Value) (S : Nat → Prop) (l : List (List UInt8)) (W : World) : Prop := ∃ g n t rs, Dq W b o cs g n t rs l ∧ l.length < n ∧ (S g ∨ w.heap.size ≤ g) ∧ Only S w W
theorem resize_4 {w : World} {b o : Nat} {cs : Array Value} {l : List (List UInt8)} (h : Is w b (put3 cs o (.slice none 0 0) (.int .i64 0) (.int .i64 0))) (hf : o + 3 ≤ cs.size) (hl : l = []) : Calls Tryz.prog 64 #[.pointer (some ⟨b, o, none⟩), .int .i64 4] w fun e w' => e = .returned (.tuple #[]) ∧ Room w b o cs (fun k => k = b) l w' := by
  subst hl
  refine (resize_sh (w := w) (s := .bare b o cs) (l := []) ⟨h, hf, rfl⟩ rfl 4 (by simp) (by omega) (by omega)).mono ?_
  rintro e w' ⟨rfl, h1, h2⟩
  exact ⟨rfl, _, _, _, _, h1, by simp, .inr (Nat.le_refl _), h2⟩
theorem resize_more {w : World} {b o g n t : Nat} {cs : Array Value} {rs l : List (List UInt8)} (h : Dq w b o cs g n t rs l) (hl : l.length = n) (hn : n ≤ 400000) : Calls Tryz.prog 64 #[.pointer (some ⟨b, o, none⟩), .int .i64 (if 2 * (n : Int) < 4 then 4 else 2 * (n : Int))] w fun e w' => e = .returned (.tuple #[]) ∧ Room w b o cs (R2 b g) l w' := by
  have e : (if 2 * (n : Int) < 4 then 4 else 2 * (n : Int)) = ((if 2 * n < 4 then 4 else 2 * n : Nat) : Int) := by split <;> split <;> omega
  rw [e]
  have ht := h.ring.top
  refine (resize_sh (w := w) (s := .ring b o cs g n t rs) (l := l) h rfl _ (by split <;> omega) (by split <;> omega) (by split <;> omega)).mono ?_
  rintro e w' ⟨rfl, h1, h2⟩
  exact ⟨rfl, _, _, _, _, h1, by split <;> omega, .inr (Nat.le_refl _), h2.mono (fun k q => .inl q)⟩
set_option maxRecDepth 100000 in
set_option maxHeartbeats 2000000 in
theorem push_sh {w : World} {s : Sh} {l : List (List UInt8)} (h : s.At w l) {b o : Nat} {cs : Array Value} (hp : s.place = some (b, o, cs)) (x : (List UInt8)) (hl : l.length ≤ 400000) :
    Calls Tryz.prog 41 #[.pointer (some ⟨b, o, none⟩), (Value.string ⟨x.toArray⟩)] w fun e w' => e = .returned (.tuple #[]) ∧ Turned w (b, o, cs) s.has (l ++ [x]) w' := by
  refine (callsIn_wide (n := 3)).1 ?_
  refine callsIn_of_wp Tryz.func41 rfl trivial ?_ rfl
  simp only [Tryz.ntmps41, List.size_toArray, List.length_cons, List.length_nil, Nat.reduceAdd, Nat.reduceSub, Array.replicate_succ, Array.replicate_zero, List.push_toArray, List.append_toArray, List.nil_append, List.cons_append]
  have HL := hide hl
  have HB0 := hide (Sh.box h hp).1
  cases s with
  | nil => cases hp
  | bare b' o' cs' =>
    cases hp
    obtain ⟨hb, hf, he⟩ := h
    have h0 : w.cell? ⟨b, o, none⟩ = some (.slice none 0 0) := (is3 hb hf).1
    have h2 : w.cell? ⟨b, o + 2, none⟩ = some (.int .i64 0) := (is3 hb hf).2.2
    have HR := hide (fun q => resize_4 (l := l) (hb.drewN q) hf he)
    clear hb hl hf he
    gi_wp2
    refine wpIn_region_quiet_lit rfl (by kernel_rfl) (by kernel_rfl) ?_
    repeat (first | (gi_big_quiet_step (fail)) | (refine BigFrame.wpQuietIn_want (fun _ _ _ _ => trivial) rfl ?_; intro K hK; gi_big_quiet_op; gi_big_quiet_call ((fail))))
    refine wpQuietIn_nil ?_
    rintro _ ⟨nq, rfl⟩
    gi_wp2_with (refine ⟨trivial, ?_⟩; gi_at_call 64; go_must ((with_reducible refine (callsIn_wide.2 ((Hid.out HR) nq)).mono ?_); rintro e W ⟨rfl, hR⟩; have HRoom : Hid (Room w b o cs (Sh.bare b o cs).has l W) := hide (by obtain ⟨g, n, t, rs, q1, q2, q3, q4⟩ := hR; exact ⟨g, n, t, rs, q1, q2, q3, ((Only.refl _ _).drewN nq).trans q4⟩); clear hR))
    clear HR h0 h2
    obtain ⟨g, n, t, rs, hD, hLT, hg, ho⟩ := HRoom.out
    have HD := hide hD
    have HLT := hide hLT
    have HG := hide hg
    have HO := hide ho
    clear hD hLT hg ho HRoom
    obtain ⟨m, hm⟩ : ∃ m, m = l.length := ⟨_, rfl⟩
    have HM := hide hm
    clear hm
    obtain ⟨h0, h1, h2⟩ := HD.out.cells
    rw [← HM.out] at h2
    have hlt := HLT.out
    rw [← HM.out] at hlt
    have hn := HD.out.le
    have hpn := HD.out.ring.lt m
    have h3 := HD.out.at_ hpn
    have hf := HD.out.row.frozen ((t + m) % n)
    have hf2 := HD.out.box.frozen (o + 2)
    have HE := hide (fun q => push_end HD.out HLT.out x q)
    have HA : Hid (∀ q : Nat, CallsIn Fence.wide (3 - 1) Tryz.prog 65 #[.pointer (some ⟨b, o, none⟩), .int .i64 (m : Int)] (W.drewN q) fun e w' => e = .returned (.int .i64 (((t + m) % n : Nat) : Int)) ∧ ∃ m', w' = (W.drewN q).drewN m') := hide (fun q => at_wide _ (HD.out.drewN q) m (by omega) _)
    rw [← HM.out] at HE
    obtain ⟨p, hp⟩ : ∃ p, p = (t + m) % n := ⟨_, rfl⟩
    rw [← hp] at hpn h3 hf HE HA
    obtain ⟨y, hy⟩ : ∃ y, y = rs.getD p ([] : List UInt8) := ⟨_, rfl⟩
    rw [← hy] at h3
    have hpi : (p : Int) < n := by omega
    have hbg : ¬ g = b := fun e => HD.out.ne e.symm
    have hbg2 : ¬ b = g := HD.out.ne
    have hmi : (m : Int) ≤ 1000000 := by omega
    clear hp hy
    gi_wp2
    refine Round.wpIn_region_tail (F := Fence.wide) (Round.Grants.refl _ _ _) (by kernel_rfl) 12 rfl rfl (by kernel_rfl) (by kernel_rfl) (by kernel_rfl) (by kernel_rfl) (by kernel_rfl) (by kernel_rfl) ?_
    simp only [List.take, List.drop]
    repeat (first | (gi_big_quiet_step (fail)) | (refine BigFrame.wpQuietIn_want (fun _ _ _ _ => trivial) rfl ?_; intro K hK; gi_big_quiet_op; gi_big_quiet_call ((gi_at_call 65; exact CallsIn.quiet_of (HA.out _)))))
    refine wpQuietIn_nil ?_
    rintro _ ⟨nq, rfl⟩
    gi_wp2
    go_end0
    exact ⟨rfl, Turned.ring (HE.out nq).1 HB0.out HG.out (HO.out.trans' (HE.out nq).2 (fun i hi => by rcases hi with rfl | rfl; exact .inl HB0.out; exact HG.out))⟩
  | ring b' o' cs' g0 n0 t0 rs0 =>
    cases hp
    obtain ⟨h0, h1, h2⟩ := Dq.cells h
    have hn0 := Dq.le h
    have H := hide h
    by_cases hf : l.length = n0
    · have HR := hide (fun q => resize_more (Dq.drewN h q) hf (by omega))
      rw [hf] at h2
      clear hf h
      gi_wp2
      refine wpIn_region_quiet_lit rfl (by kernel_rfl) (by kernel_rfl) ?_
      repeat (first | (gi_big_quiet_step (fail)) | (refine BigFrame.wpQuietIn_want (fun _ _ _ _ => trivial) rfl ?_; intro K hK; gi_big_quiet_op; gi_big_quiet_call ((fail))))
      refine wpQuietIn_nil ?_
      rintro _ ⟨nq, rfl⟩
      gi_wp2_with (refine ⟨trivial, ?_⟩; gi_at_call 64; go_must ((with_reducible refine (callsIn_wide.2 ((Hid.out HR) nq)).mono ?_); rintro e W ⟨rfl, hR⟩; have HRoom : Hid (Room w b o cs (Sh.ring b o cs g0 n0 t0 rs0).has l W) := hide (by obtain ⟨g, n, t, rs, q1, q2, q3, q4⟩ := hR; exact ⟨g, n, t, rs, q1, q2, q3, ((Only.refl _ _).drewN nq).trans q4⟩); clear hR))
      all_goals
        clear HR h0 h1 h2 H
        obtain ⟨g, n, t, rs, hD, hLT, hg, ho⟩ := HRoom.out
        have HD := hide hD
        have HLT := hide hLT
        have HG := hide hg
        have HO := hide ho
        clear hD hLT hg ho HRoom
        obtain ⟨m, hm⟩ : ∃ m, m = l.length := ⟨_, rfl⟩
        have HM := hide hm
        clear hm
        obtain ⟨h0, h1, h2⟩ := HD.out.cells
        rw [← HM.out] at h2
        have hlt := HLT.out
        rw [← HM.out] at hlt
        have hn := HD.out.le
        have hpn := HD.out.ring.lt m
        have h3 := HD.out.at_ hpn
        have hf := HD.out.row.frozen ((t + m) % n)
        have hf2 := HD.out.box.frozen (o + 2)
        have HE := hide (fun q => push_end HD.out HLT.out x q)
        have HA : Hid (∀ q : Nat, CallsIn Fence.wide (3 - 1) Tryz.prog 65 #[.pointer (some ⟨b, o, none⟩), .int .i64 (m : Int)] (W.drewN q) fun e w' => e = .returned (.int .i64 (((t + m) % n : Nat) : Int)) ∧ ∃ m', w' = (W.drewN q).drewN m') := hide (fun q => at_wide _ (HD.out.drewN q) m (by omega) _)
        rw [← HM.out] at HE
        obtain ⟨p, hp⟩ : ∃ p, p = (t + m) % n := ⟨_, rfl⟩
        rw [← hp] at hpn h3 hf HE HA
        obtain ⟨y, hy⟩ : ∃ y, y = rs.getD p ([] : List UInt8) := ⟨_, rfl⟩
        rw [← hy] at h3
        have hpi : (p : Int) < n := by omega
        have hbg : ¬ g = b := fun e => HD.out.ne e.symm
        have hbg2 : ¬ b = g := HD.out.ne
        have hmi : (m : Int) ≤ 1000000 := by omega
        clear hp hy
        gi_wp2
        refine Round.wpIn_region_tail (F := Fence.wide) (Round.Grants.refl _ _ _) (by kernel_rfl) 12 rfl rfl (by kernel_rfl) (by kernel_rfl) (by kernel_rfl) (by kernel_rfl) (by kernel_rfl) (by kernel_rfl) ?_
        simp only [List.take, List.drop]
        repeat (first | (gi_big_quiet_step (fail)) | (refine BigFrame.wpQuietIn_want (fun _ _ _ _ => trivial) rfl ?_; intro K hK; gi_big_quiet_op; gi_big_quiet_call ((gi_at_call 65; exact CallsIn.quiet_of (HA.out _)))))
        refine wpQuietIn_nil ?_
        rintro _ ⟨nq, rfl⟩
        gi_wp2
        go_end0
        exact ⟨rfl, Turned.ring (HE.out nq).1 HB0.out HG.out (HO.out.trans' (HE.out nq).2 (fun i hi => by rcases hi with rfl | rfl; exact .inl HB0.out; exact HG.out))⟩
    · have hc := (Dq.ring h).cnt
      obtain ⟨k, hk⟩ : ∃ k, k = l.length := ⟨_, rfl⟩
      have HK := hide hk
      rw [← hk] at h2 hf
      have hfi : ¬ (k : Int) = (n0 : Int) := by omega
      clear h hk
      gi_wp2
      refine wpIn_region_quiet_lit rfl (by kernel_rfl) (by kernel_rfl) ?_
      repeat (first | (gi_big_quiet_step (fail)) | (refine BigFrame.wpQuietIn_want (fun _ _ _ _ => trivial) rfl ?_; intro K hK; gi_big_quiet_op; gi_big_quiet_call ((fail))))
      refine wpQuietIn_nil ?_
      rintro _ ⟨nq, rfl⟩
      have HRoom : Hid (Room w b o cs (Sh.ring b o cs g0 n0 t0 rs0).has l (w.drewN nq)) := hide ⟨g0, n0, t0, rs0, Dq.drewN H.out nq, by have := HK.out; omega, .inl (.inr rfl), (Only.refl _ _).drewN nq⟩
      clear h0 h1 h2 H
      generalize w.drewN nq = W at *
      gi_wp2
      obtain ⟨g, n, t, rs, hD, hLT, hg, ho⟩ := HRoom.out
      have HD := hide hD
      have HLT := hide hLT
      have HG := hide hg
      have HO := hide ho
      clear hD hLT hg ho HRoom
      obtain ⟨m, hm⟩ : ∃ m, m = l.length := ⟨_, rfl⟩
      have HM := hide hm
      clear hm
      obtain ⟨h0, h1, h2⟩ := HD.out.cells
      rw [← HM.out] at h2
      have hlt := HLT.out
      rw [← HM.out] at hlt
      have hn := HD.out.le
      have hpn := HD.out.ring.lt m
      have h3 := HD.out.at_ hpn
      have hf := HD.out.row.frozen ((t + m) % n)
      have hf2 := HD.out.box.frozen (o + 2)
      have HE := hide (fun q => push_end HD.out HLT.out x q)
      have HA : Hid (∀ q : Nat, CallsIn Fence.wide (3 - 1) Tryz.prog 65 #[.pointer (some ⟨b, o, none⟩), .int .i64 (m : Int)] (W.drewN q) fun e w' => e = .returned (.int .i64 (((t + m) % n : Nat) : Int)) ∧ ∃ m', w' = (W.drewN q).drewN m') := hide (fun q => at_wide _ (HD.out.drewN q) m (by omega) _)
      rw [← HM.out] at HE
      obtain ⟨p, hp⟩ : ∃ p, p = (t + m) % n := ⟨_, rfl⟩
      rw [← hp] at hpn h3 hf HE HA
      obtain ⟨y, hy⟩ : ∃ y, y = rs.getD p ([] : List UInt8) := ⟨_, rfl⟩
      rw [← hy] at h3
      have hpi : (p : Int) < n := by omega
      have hbg : ¬ g = b := fun e => HD.out.ne e.symm
      have hbg2 : ¬ b = g := HD.out.ne
      have hmi : (m : Int) ≤ 1000000 := by omega
      clear hp hy
      gi_wp2
      refine Round.wpIn_region_tail (F := Fence.wide) (Round.Grants.refl _ _ _) (by kernel_rfl) 12 rfl rfl (by kernel_rfl) (by kernel_rfl) (by kernel_rfl) (by kernel_rfl) (by kernel_rfl) (by kernel_rfl) ?_
      simp only [List.take, List.drop]
      repeat (first | (gi_big_quiet_step (fail)) | (refine BigFrame.wpQuietIn_want (fun _ _ _ _ => trivial) rfl ?_; intro K hK; gi_big_quiet_op; gi_big_quiet_call ((gi_at_call 65; exact CallsIn.quiet_of (HA.out _)))))
      refine wpQuietIn_nil ?_
      rintro _ ⟨nq, rfl⟩
      gi_wp2
      go_end0
      exact ⟨rfl, Turned.ring (HE.out nq).1 HB0.out HG.out (HO.out.trans' (HE.out nq).2 (fun i hi => by rcases hi with rfl | rfl; exact .inl HB0.out; exact HG.out))⟩
end Go.Proofs.YtkjhamcmhijhgaaGreat.DqS

/- What is at the bottom is taken; what is at the top. -/
namespace Go.Proofs.YtkjhamcmhijhgaaGreat.DqS
open Go.RowKit Go.Proofs.YtkjhamcmhijhgaaGreat.Dig Go.Proofs.YtkjhamcmhijhgaaGreat.Mem Go.Proofs.YtkjhamcmhijhgaaGreat.Dq Go.Proofs.YtkjhamcmhijhgaaGreat.Bit Go.Shelf
set_option linter.unusedVariables false
set_option linter.unusedSimpArgs false

theorem len_none {w : World} {s : Sh} (h : s.At w []) : Calls Tryz.prog 71 #[s.ptr] w fun e w' => e = .returned (.int .i64 0) ∧ w' = w := len_sh h
theorem pop_none {w : World} {s : Sh} (h : s.At w []) : Calls Tryz.prog 68 #[s.ptr] w fun e w' => e = .returned (.tuple #[(Value.string ⟨#[]⟩), .bool false]) ∧ w' = w := by
  have HL := hide (len_none h)
  obtain ⟨q, hq⟩ := s.shape
  rw [hq] at HL ⊢
  clear h hq
  go_enter Tryz.func68, Tryz.ntmps68
  go_wp2_with (go_at_call 71; go_must ((with_reducible refine (Hid.out HL).mono ?_); rintro e w9 ⟨rfl, rfl⟩))
  refine bodyPost_ret (v := .tuple #[(Value.string ⟨#[]⟩), .bool false]) (by simp [results, Tryz.results68, go_sem]) rfl ?_
  exact ⟨rfl, rfl⟩
theorem steal_none {w : World} {s : Sh} (h : s.At w []) : Calls Tryz.prog 70 #[s.ptr] w fun e w' => e = .returned (.tuple #[(Value.string ⟨#[]⟩), .bool false]) ∧ w' = w := by
  have HL := hide (len_none h)
  obtain ⟨q, hq⟩ := s.shape
  rw [hq] at HL ⊢
  clear h hq
  go_enter Tryz.func70, Tryz.ntmps70
  go_wp2_with (go_at_call 71; go_must ((with_reducible refine (Hid.out HL).mono ?_); rintro e w9 ⟨rfl, rfl⟩))
  refine bodyPost_ret (v := .tuple #[(Value.string ⟨#[]⟩), .bool false]) (by simp [results, Tryz.results70, go_sem]) rfl ?_
  exact ⟨rfl, rfl⟩
set_option maxHeartbeats 1000000 in
theorem pop_dq {w : World} {b o g n t : Nat} {cs : Array Value} {rs l : List (List UInt8)} {x : (List UInt8)} (h : Dq w b o cs g n t rs (l ++ [x])) :
    Calls Tryz.prog 68 #[.pointer (some ⟨b, o, none⟩)] w fun e w' => e = .returned (.tuple #[(Value.string ⟨x.toArray⟩), .bool true]) ∧ Turned w (b, o, cs) (R2 b g) l w' := by
  obtain ⟨k, hk⟩ : ∃ k, k = l.length + 1 := ⟨_, rfl⟩
  have hkl : (l ++ [x]).length = k := by rw [hk]; simp
  have hc := h.ring.cnt
  have hn := h.le
  rw [hkl] at hc
  have HFT := hide h.fit
  obtain ⟨r1, r2⟩ := h.ring.pop ([] : List UInt8)
  have c0 : w.cell? ⟨b, o + 2, none⟩ = some (.int .i64 (k : Int)) := by rw [← hkl]; exact h.cells.2.2
  have HL := hide (len_cell (k := (k : Int)) w c0)
  have HF := lift_dq w h l.length (by omega)
  have e0 : ((l.length : Nat) : Int) = (k : Int) - 1 := by omega
  rw [r2, e0, hkl] at HF
  have HLF := hide HF
  have key : ∀ w1 : World, Is w1 b (put3 cs o (.slice (some ⟨g, 0, none⟩) n n) (.int .i64 (t : Int)) (.int .i64 (k : Int))) → Is w1 g (cellsOf (rs.set ((t + l.length) % n) ([] : List UInt8))) → Dq (w1.setCell ⟨b, o + 2, none⟩ (.int .i64 ((k : Int) - 1))) b o cs g n t (rs.set ((t + l.length) % n) ([] : List UInt8)) l := fun w1 q1 q2 =>
    ⟨by rw [e0]; exact is3_set2 q1 _, h.fit, q2.other (p := ⟨b, o + 2, none⟩) h.ne _, h.ne, r1, h.le⟩
  have HK := hide key
  have hki : (k : Int) ≤ 1000000 := by omega
  have hk1 : 1 ≤ (k : Int) := by omega
  have hk0 : ¬ (k : Int) = 0 := by omega
  clear h hk hkl r1 r2 HF e0 key
  go_enter Tryz.func68, Tryz.ntmps68
  go_wp2_with (first
    | (go_at_call 71; go_must ((with_reducible refine (Hid.out HL).mono ?_); rintro e w9 ⟨rfl, rfl⟩; clear HL))
    | (go_at_call 80; go_must ((with_reducible refine (Hid.out HLF).mono ?_); rintro e w1 ⟨rfl, q1, q2, q3⟩; have c2 := (is3 q1 HFT.out).2.2; have f2 := q1.frozen (o + 2); have HD := hide (HK.out _ q1 q2); have HO := hide q3; clear q1 q2 q3 HLF))
    | (go_at_call 81; go_must ((with_reducible refine (shrink_dq HD.out).mono ?_); rintro e w2 ⟨rfl, q⟩; have HT := hide q; clear q)))
  refine bodyPost_ret (v := .tuple #[(Value.string ⟨x.toArray⟩), .bool true]) (by simp [results, Tryz.results68, go_sem]) rfl ?_
  exact ⟨rfl, Turned.trans ((HO.out.mono (fun k q => .inr q)).setCell (p := ⟨b, o + 2, none⟩) (.inl (.inl rfl)) _) (fun k q => .inl q) HT.out⟩
set_option maxHeartbeats 1000000 in
theorem steal_dq {w : World} {b o g n t : Nat} {cs : Array Value} {rs l : List (List UInt8)} {x : (List UInt8)} (h : Dq w b o cs g n t rs (x :: l)) :
    Calls Tryz.prog 70 #[.pointer (some ⟨b, o, none⟩)] w fun e w' => e = .returned (.tuple #[(Value.string ⟨x.toArray⟩), .bool true]) ∧ Turned w (b, o, cs) (R2 b g) l w' := by
  obtain ⟨k, hk⟩ : ∃ k, k = l.length + 1 := ⟨_, rfl⟩
  have hkl : (x :: l).length = k := by rw [hk]; simp
  have hc := h.ring.cnt
  have hn := h.le
  have ht := h.ring.top
  rw [hkl] at hc
  have HFT := hide h.fit
  obtain ⟨r1, r2⟩ := h.ring.steal ([] : List UInt8)
  have c0 : w.cell? ⟨b, o + 2, none⟩ = some (.int .i64 (k : Int)) := by rw [← hkl]; exact h.cells.2.2
  have HL := hide (len_cell (k := (k : Int)) w c0)
  have HF := lift_dq w h 0 (by omega)
  have e0 : ((l.length : Nat) : Int) = (k : Int) - 1 := by omega
  rw [r2, hkl] at HF
  have HLF : Hid (Calls Tryz.prog 80 #[.pointer (some ⟨b, o, none⟩), .int .i64 0] w fun e w' => e = .returned (Value.string ⟨x.toArray⟩) ∧
    Is w' b (put3 cs o (.slice (some ⟨g, 0, none⟩) n n) (.int .i64 (t : Int)) (.int .i64 (k : Int))) ∧ Is w' g (cellsOf (rs.set ((t + 0) % n) ([] : List UInt8))) ∧ Only (fun k => k = g) w w') := hide HF
  obtain ⟨t', ht'⟩ : ∃ t', t' = (t + 1) % n := ⟨_, rfl⟩
  have HA : Hid (∀ w1 : World, Is w1 b (put3 cs o (.slice (some ⟨g, 0, none⟩) n n) (.int .i64 (t : Int)) (.int .i64 (k : Int))) → Calls Tryz.prog 65 #[.pointer (some ⟨b, o, none⟩), .int .i64 1] w1 fun e w' => e = .returned (.int .i64 (t' : Int)) ∧ ∃ m, w' = w1.drewN m) := hide (fun w1 q => by
    rw [ht']
    exact at_cells w1 (is3 q HFT.out).1 (is3 q HFT.out).2.1 ht hn 1 (by omega))
  have HK : Hid (∀ w1 : World, Is w1 b (put3 cs o (.slice (some ⟨g, 0, none⟩) n n) (.int .i64 (t : Int)) (.int .i64 (k : Int))) → Is w1 g (cellsOf (rs.set ((t + 0) % n) ([] : List UInt8))) → Dq ((w1.setCell ⟨b, o + 1, none⟩ (.int .i64 (t' : Int))).setCell ⟨b, o + 2, none⟩ (.int .i64 ((k : Int) - 1))) b o cs g n t' (rs.set ((t + 0) % n) ([] : List UInt8)) l) := hide (fun w1 q1 q2 =>
    ⟨by rw [e0]; exact is3_set2 (is3_set1 q1 _) _, h.fit, (q2.other (p := ⟨b, o + 1, none⟩) h.ne _).other (p := ⟨b, o + 2, none⟩) h.ne _, h.ne, by rw [ht']; exact r1, h.le⟩)
  have hki : (k : Int) ≤ 1000000 := by omega
  have hk1 : 1 ≤ (k : Int) := by omega
  have hk0 : ¬ (k : Int) = 0 := by omega
  clear h hk hkl r1 r2 HF e0 ht'
  go_enter Tryz.func70, Tryz.ntmps70
  go_wp2_with (first
    | (go_at_call 71; go_must ((with_reducible refine (Hid.out HL).mono ?_); rintro e w9 ⟨rfl, rfl⟩; clear HL))
    | (go_at_call 80; go_must ((with_reducible refine (Hid.out HLF).mono ?_); rintro e w1 ⟨rfl, q1, q2, q3⟩; have HI := hide q1; have HG := hide q2; have HO := hide q3; clear q1 q2 q3 HLF))
    | (go_at_call 65; go_must ((with_reducible refine ((Hid.out HA) _ HI.out).mono ?_); rintro e w2 ⟨rfl, m, rfl⟩; have c1 := (is3 (HI.out.drewN m) HFT.out).2.1; have c2 := (is3 (HI.out.drewN m) HFT.out).2.2; have f1 := (HI.out.drewN m).frozen (o + 1); have f2 := (HI.out.drewN m).frozen (o + 2); have HD := hide (HK.out _ (HI.out.drewN m) (HG.out.drewN m)); replace HO := hide (HO.out.drewN m); clear HI HG HA HK; generalize w1.drewN m = w2 at *))
    | (go_at_call 81; go_must ((with_reducible refine (shrink_dq HD.out).mono ?_); rintro e w3 ⟨rfl, q⟩; have HT := hide q; clear q)))
  refine bodyPost_ret (v := .tuple #[(Value.string ⟨x.toArray⟩), .bool true]) (by simp [results, Tryz.results70, go_sem]) rfl ?_
  exact ⟨rfl, Turned.trans (((HO.out.mono (fun k q => .inr q)).setCell (p := ⟨b, o + 1, none⟩) (.inl (.inl rfl)) _).setCell (p := ⟨b, o + 2, none⟩) (.inl (.inl rfl)) _) (fun k q => .inl q) HT.out⟩
/-- .. however it lies. -/
theorem pop_sh {w : World} {s : Sh} {l : List (List UInt8)} {x : (List UInt8)} (h : s.At w (l ++ [x])) {b o : Nat} {cs : Array Value} (hp : s.place = some (b, o, cs)) : Calls Tryz.prog 68 #[.pointer (some ⟨b, o, none⟩)] w fun e w' => e = .returned (.tuple #[(Value.string ⟨x.toArray⟩), .bool true]) ∧ Turned w (b, o, cs) s.has l w' := by
  cases s with
  | nil => cases hp
  | bare b' o' cs' => have e : l ++ [x] = [] := h.2.2; simp at e
  | ring b' o' cs' g n t rs => cases hp; exact pop_dq h
theorem steal_sh {w : World} {s : Sh} {l : List (List UInt8)} {x : (List UInt8)} (h : s.At w (x :: l)) {b o : Nat} {cs : Array Value} (hp : s.place = some (b, o, cs)) : Calls Tryz.prog 70 #[.pointer (some ⟨b, o, none⟩)] w fun e w' => e = .returned (.tuple #[(Value.string ⟨x.toArray⟩), .bool true]) ∧ Turned w (b, o, cs) s.has l w' := by
  cases s with
  | nil => cases hp
  | bare b' o' cs' => have e : x :: l = [] := h.2.2; simp at e
  | ring b' o' cs' g n t rs => cases hp; exact steal_dq h
end Go.Proofs.YtkjhamcmhijhgaaGreat.DqS

/- Plain mathematics: a number comes back from its text, and a list from its texts with blanks ahead. -/
namespace Go.Proofs.YtkjhamcmhijhgaaGreat.Dig
open Go.RowKit
set_option linter.unusedVariables false
set_option linter.unusedSimpArgs false

theorem val_mono (z : Nat → Int) (a : Nat) : ∀ m j, j ≤ m → (∀ i, i < m → dgt (z (a + i)) = true) → val z a j ≤ val z a m
  | 0, j, h, _ => by obtain rfl : j = 0 := by omega
                     exact Int.le_refl _
  | m + 1, j, h, hd => by
    by_cases e : j = m + 1
    · subst e; exact Int.le_refl _
    · have h1 := val_mono z a m j (by omega) (fun i hi => hd i (by omega))
      have h2 := (val_bd z a m (fun i hi => hd i (by omega))).1
      have h3 := dgt_iff.1 (hd m (by omega))
      simp only [val]; omega
theorem okm_mono {z : Nat → Int} {a m j : Nat} (h : okm z a m = true) (h1 : 1 ≤ j) (h2 : j ≤ m) (hd : ∀ i, i < m → dgt (z (a + i)) = true) : okm z a j = true := by
  rw [okm_iff] at h ⊢
  obtain ⟨q1, q2, q3, q4⟩ := h
  have := val_mono z a m j h2 hd
  refine ⟨h1, by omega, fun g => q3 ⟨by omega, g.2⟩, by omega⟩
theorem okm_one {z : Nat → Int} {a : Nat} (h : dgt (z a) = true) : okm z a 1 = true := by
  have := dgt_iff.1 h
  rw [okm_iff]; simp [val]; omega
/-- Of digits that end there the number is read to their end, if they are a number's text. -/
theorem parse_to {z : Nat → Int} {len a k : Nat} (hk : a + k ≤ len) (h1 : 1 ≤ k) (hok : okm z a k = true) (hd : ∀ i, i < k → dgt (z (a + i)) = true) (he : ¬ (a + k < len ∧ dgt (z (a + k)) = true)) :
    parse z len (a : Int) = (val z a k, ((a + k : Nat) : Int), true) := by
  rcases parse_spec z len a (by omega) with ⟨q, g1, g2, g3, g4, g5, g6⟩ | ⟨q, g2, g3, g4, g5, g6⟩
  · by_cases e : q < k
    · exact absurd ⟨by omega, hd q e⟩ g5
    · by_cases e' : k < q
      · exact absurd ⟨by omega, g4 k e'⟩ he
      · obtain rfl : q = k := by omega
        exact g6
  · exfalso
    rcases g5 with ⟨e, g⟩ | ⟨q1, q2, q3⟩
    · exact g ⟨by omega, by have := hd 0 (by omega); simpa using this⟩
    · by_cases e : q < k
      · exact q3 (okm_mono hok (by omega) (by omega) hd)
      · by_cases e' : k < q
        · exact he ⟨by omega, g4 k e'⟩
        · obtain rfl : q = k := by omega
          exact he ⟨q1, q2⟩

/-- A number's text, as numbers. -/
def txtI (n : Nat) : List Int := (txt n).map fun b => (b.toNat : Int)
theorem txtI_len (n : Nat) : (txtI n).length = (txt n).length := by simp [txtI]
theorem txtI_small {n : Nat} (h : n ≤ 9) : txtI n = [48 + (n : Int)] := by
  unfold txtI; rw [txt_small h]
  have : (UInt8.ofNat (48 + n)).toNat = 48 + n := by simp only [UInt8.toNat_ofNat']; omega
  simp only [List.map_cons, List.map_nil, this]; rfl
theorem txtI_big {n : Nat} (h : 9 < n) (hm : n ≤ 2147483647) : txtI n = txtI (n / 10) ++ [48 + ((n % 10 : Nat) : Int)] := by
  unfold txtI; rw [txt_big h hm]
  have : (UInt8.ofNat (48 + n % 10)).toNat = 48 + n % 10 := by simp only [UInt8.toNat_ofNat']; omega
  simp only [List.map_append, List.map_cons, List.map_nil, this]; rfl
theorem txt_back (z : Nat → Int) (a : Nat) : ∀ f n : Nat, n ≤ f → n ≤ 2147483647 → (∀ j, j < (txtI n).length → z (a + j) = (txtI n).getD j 0) →
    val z a (txtI n).length = n ∧ (∀ j, j < (txtI n).length → dgt (z (a + j)) = true) ∧ (1 < (txtI n).length → z a ≠ 48) := by
  intro f
  induction f with
  | zero =>
    intro n hn _ hz
    obtain rfl : n = 0 := by omega
    rw [txtI_small (by omega)] at hz ⊢
    have h0 := hz 0 (by simp)
    simp at h0
    refine ⟨by simp [val, h0], fun j hj => ?_, by simp⟩
    obtain rfl : j = 0 := by simpa using hj
    rw [Nat.add_zero, h0, dgt_iff]; omega
  | succ f ih =>
    intro n hn hm hz
    by_cases h9 : n ≤ 9
    · rw [txtI_small h9] at hz ⊢
      have h0 := hz 0 (by simp)
      simp at h0
      refine ⟨by simp [val, h0]; omega, fun j hj => ?_, by simp⟩
      obtain rfl : j = 0 := by simpa using hj
      rw [Nat.add_zero, h0, dgt_iff]; omega
    · have e := txtI_big (n := n) (by omega) hm
      rw [e] at hz ⊢
      have hl : (txtI (n / 10) ++ [48 + ((n % 10 : Nat) : Int)]).length = (txtI (n / 10)).length + 1 := by simp
      rw [hl] at hz ⊢
      obtain ⟨i1, i2, i3⟩ := ih (n / 10) (by omega) (by omega) (fun j hj => by
        rw [hz j (by omega), List.getD_eq_getElem?_getD, List.getD_eq_getElem?_getD, List.getElem?_append_left hj])
      have hlast := hz (txtI (n / 10)).length (by omega)
      rw [List.getD_eq_getElem?_getD, List.getElem?_append_right (by omega)] at hlast
      simp at hlast
      have hlen1 : 1 ≤ (txtI (n / 10)).length := by rw [txtI_len]; exact (txt_len _).1
      refine ⟨?_, fun j hj => ?_, fun _ => ?_⟩
      · rw [val, i1, hlast]; omega
      · by_cases ej : j = (txtI (n / 10)).length
        · rw [ej, hlast, dgt_iff]; omega
        · exact i2 j (by omega)
      · by_cases e1 : 1 < (txtI (n / 10)).length
        · exact i3 e1
        · have e2 : (txtI (n / 10)).length = 1 := by omega
          rw [e2] at i1
          simp [val] at i1
          omega
/-- A number comes back from its text. -/
theorem parse_back {z : Nat → Int} {len a n : Nat} (hn : n ≤ 2147483647) (hl : a + (txtI n).length ≤ len) (hz : ∀ j, j < (txtI n).length → z (a + j) = (txtI n).getD j 0)
    (he : a + (txtI n).length = len ∨ dgt (z (a + (txtI n).length)) = false) : parse z len (a : Int) = ((n : Int), ((a + (txtI n).length : Nat) : Int), true) := by
  obtain ⟨h1, h2, h3⟩ := txt_back z a n n (Nat.le_refl _) hn hz
  have hb := txt_len n
  rw [← txtI_len] at hb
  rw [parse_to hl hb.1 (okm_iff.2 ⟨hb.1, hb.2, fun g => h3 g.1 g.2, by rw [h1]; omega⟩) h2 (by rcases he with g | g <;> simp [g]), h1]

/-- Numbers' texts, a blank ahead of each. -/
def flat : List Int → List Int
  | [] => []
  | n :: l => 32 :: (txtI n.toNat ++ flat l)
theorem flat_append : ∀ l m : List Int, flat (l ++ m) = flat l ++ flat m
  | [], _ => rfl
  | n :: l, m => by simp [flat, flat_append l m]
theorem flat_len : ∀ l : List Int, l.length ≤ (flat l).length ∧ (flat l).length ≤ 11 * l.length
  | [] => by simp [flat]
  | n :: l => by
    have := flat_len l
    have := txt_len n.toNat
    rw [← txtI_len] at this
    simp [flat]; omega
/-- A list comes back from its texts. -/
theorem lscan_back {z : Nat → Int} {len : Nat} : ∀ (l acc : List Int) (p f : Nat), (∀ n ∈ l, 0 ≤ n ∧ n ≤ 2147483647) → p + (flat l).length ≤ len → len - p ≤ f → (∀ j, j < (flat l).length → z (p + j) = (flat l).getD j 0) →
    (p + (flat l).length = len ∨ (dgt (z (p + (flat l).length)) = false ∧ z (p + (flat l).length) ≠ 32)) → lscan z len f p acc = (acc ++ l, ((p + (flat l).length : Nat) : Int), true)
  | [], acc, p, f, _, hp, hf, hz, he => by
    simp only [flat, List.length_nil, Nat.add_zero, List.append_nil] at *
    exact lscan_stop hf (by intro g; rcases he with h | h; omega; exact h.2 g.2)
  | n :: l, acc, p, f, hl, hp, hf, hz, he => by
    have hn := hl n List.mem_cons_self
    obtain ⟨N, rfl⟩ : ∃ N : Nat, n = N := ⟨n.toNat, by omega⟩
    have hlen : (flat ((N : Int) :: l)).length = 1 + (txtI N).length + (flat l).length := by simp [flat]; omega
    have ht := txt_len N
    rw [← txtI_len] at ht
    rw [hlen] at hp hz he ⊢
    have hflat : flat ((N : Int) :: l) = 32 :: (txtI N ++ flat l) := by simp [flat]
    rw [hflat] at hz
    have h0 := hz 0 (by omega)
    simp at h0
    have hz1 : ∀ j, j < (txtI N).length → z (p + 1 + j) = (txtI N).getD j 0 := fun j hj => by
      have := hz (1 + j) (by omega)
      rw [← Nat.add_assoc] at this
      rw [this, List.getD_eq_getElem?_getD, List.getD_eq_getElem?_getD, Nat.add_comm 1 j, List.getElem?_cons_succ, List.getElem?_append_left hj]
    have hz2 : ∀ j, j < (flat l).length → z (p + 1 + (txtI N).length + j) = (flat l).getD j 0 := fun j hj => by
      have := hz ((txtI N).length + j + 1) (by omega)
      rw [show p + 1 + (txtI N).length + j = p + ((txtI N).length + j + 1) by omega, this, List.getD_eq_getElem?_getD, List.getD_eq_getElem?_getD, List.getElem?_cons_succ, List.getElem?_append_right (by omega)]
      simp
    have hpar := parse_back (z := z) (len := len) (a := p + 1) (n := N) (by omega) (by omega) hz1 (by
      cases l with
      | nil =>
        simp only [flat, List.length_nil, Nat.add_zero] at he
        rcases he with h | h
        · left; omega
        · right; rw [show p + 1 + (txtI N).length = p + (1 + (txtI N).length) by omega]; exact h.1
      | cons m l =>
        right
        have := hz2 0 (by simp [flat])
        simp [flat] at this
        rw [this]; rfl)
    rw [lscan_go hf ⟨by omega, h0⟩ (t := p + 1 + (txtI N).length) (n := (N : Int)) (by simpa using hpar)]
    rw [lscan_back l (acc ++ [(N : Int)]) (p + 1 + (txtI N).length) (f - 1) (fun m hm => hl m (List.mem_cons_of_mem _ hm)) (by omega) (by omega) hz2 (by
      rcases he with h | h
      · left; omega
      · right; rw [show p + 1 + (txtI N).length + (flat l).length = p + (1 + (txtI N).length + (flat l).length) by omega]; exact h)]
    simp
    omega
theorem lst_back {z : Nat → Int} {len : Nat} (l : List Int) (p : Nat) (hl : ∀ n ∈ l, 0 ≤ n ∧ n ≤ 2147483647) (hp : p + (flat l).length ≤ len) (hz : ∀ j, j < (flat l).length → z (p + j) = (flat l).getD j 0)
    (he : p + (flat l).length = len ∨ (dgt (z (p + (flat l).length)) = false ∧ z (p + (flat l).length) ≠ 32)) : lst z len (p : Int) = (l, ((p + (flat l).length : Nat) : Int), true) := by
  rw [lst_in (by omega), lscan_back l [] p (len - p) hl hp (Nat.le_refl _) hz he]; simp
end Go.Proofs.YtkjhamcmhijhgaaGreat.Dig

/- A row of numbers that a call made itself, and what an append to it leaves: of another row, whatever its address, and of a string's bytes. -/
namespace Go.Proofs.YtkjhamcmhijhgaaGreat.Dig
open Go.RowKit
set_option linter.unusedVariables false
set_option linter.unusedSimpArgs false

/-- v is a row of the call's own (its blocks are numbered from base on) that holds the numbers l. -/
def Own (e : TypeId) (k : IntKind) (base : Nat) (w : World) (v : Value) (l : List Int) : Prop := w.ownsRow base e 1 v l.length (l.map (Value.int k))

theorem Own.nil (e : TypeId) (k : IntKind) (base : Nat) (w : World) : Own e k base w (.slice none 0 0) [] := World.ownsRow_nil _ _ _ _
theorem Own.empty (e : TypeId) (k : IntKind) (base : Nat) (w : World) (n : Nat) (hn : n = w.heap.size) (hb : base ≤ w.heap.size) : Own e k base (w.alloc (.cells #[] e)) (.slice (some ⟨n, 0, none⟩) 0 0) [] := by
  subst hn
  exact World.ownsRow_made w #[] 0 hb (by unfold maxLen; omega) (by simp)
theorem Own.lt {e : TypeId} {k : IntKind} {base : Nat} {w : World} {v : Value} {l : List Int} (h : Own e k base w v l) : ∀ b, v.ownBlock = some b → base ≤ b ∧ b < w.heap.size := World.ownsRow.lt h
theorem Own.keep {e : TypeId} {k : IntKind} {base : Nat} {w w' : World} {v : Value} {l : List Int} (h : Own e k base w v l) (hb : Below w.heap.size w w') : Own e k base w' v l := by
  refine ⟨h.1, ?_⟩
  rcases h.2 with hn | ⟨g, cap, cur, rfl, hg, hh, r⟩
  · exact .inl hn
  · have hlt : g < w.heap.size := by
      rcases Nat.lt_or_ge g w.heap.size with q | q
      · exact q
      · simp [Array.getElem?_eq_none q] at hh
    exact .inr ⟨g, cap, cur, rfl, hg, by rw [hb.block g hlt]; exact hh, r⟩
theorem Own.alloc {e : TypeId} {k : IntKind} {base : Nat} {w : World} {v : Value} {l : List Int} (h : Own e k base w v l) (o : Obj) : Own e k base (w.alloc o) v l := World.ownsRow.alloc h o
/-- Its shape, and how it is read. -/
theorem Own.shape {e : TypeId} {k : IntKind} {base : Nat} {w : World} {v : Value} {l : List Int} (h : Own e k base w v l) (hl : l.length ≤ 1000000000000) (hw : ∀ n ∈ l, (Lit.int k n).wf = true) :
    ∃ a cap, v = .slice a l.length cap ∧ l.length ≤ cap ∧ Rd k w a l.length (fun i => l.getD i 0) := by
  have h' := h
  unfold Own at h'
  rcases h.2 with ⟨hv, h0⟩ | ⟨g, cap, cur, hv, hg, hh, hc1, hc2, hc3, hc4⟩
  · have : l = [] := by cases l with
      | nil => rfl
      | cons x l => simp at h0
    subst this
    exact ⟨none, 0, hv, by simp, by simp, fun i hi => by simp at hi⟩
  · refine ⟨_, cap, hv, hc1, hl, fun i hi => ⟨g, 0, rfl, ?_, ?_⟩⟩
    · subst hv
      rw [Nat.zero_add, h'.cellAt i (by omega)]
      simp [List.getD_eq_getElem?_getD, List.getElem?_eq_getElem hi]
    · simp only [List.getD_eq_getElem?_getD, List.getElem?_eq_getElem hi, Option.getD_some]
      exact hw _ (List.getElem_mem hi)

/-- The same with its length and its elements named. -/
theorem Own.view {e : TypeId} {k : IntKind} {base : Nat} {w : World} {v : Value} {l : List Int} (h : Own e k base w v l) (hl : l.length ≤ 1000000000000) (hw : ∀ n ∈ l, (Lit.int k n).wf = true) :
    ∃ a cap n z, v = .slice a n cap ∧ Hid (n = l.length) ∧ Hid (z = fun i => l.getD i 0) ∧ n ≤ cap ∧ Rd k w a n z := by
  obtain ⟨a, cap, rfl, h1, h2⟩ := h.shape hl hw
  exact ⟨a, cap, _, _, rfl, rfl, rfl, h1, h2⟩
theorem wf_u8 {n : Int} (h0 : 0 ≤ n) (h1 : n ≤ 255) : (Lit.int .u8 n).wf = true := WalkArith.wf_u8 (by omega)
theorem wf_txtI (n : Nat) : ∀ x ∈ (txt n).map (fun b : UInt8 => (b.toNat : Int)), (Lit.int .u8 x).wf = true := by
  intro x hx
  obtain ⟨b, _, rfl⟩ := List.mem_map.1 hx
  have := b.toNat_lt
  exact wf_u8 (by omega) (by omega)

section
variable {P : Program} {w w0 : World} {ops : Array Oper} {rest : List Oper} {o : Oper} {a : Act} {Q : Exit → Act → World → Prop}
/-- append(v, x...), x whatever row of numbers. -/
theorem app_slice (hgd : o.guard = none) (s x : Operand) (t : TypeId) (ho : o.op = .call { callee := .builtin .append, args := #[s, x], argTypes := #[t, t] })
    (e : TypeId) (i : TypeInfo) (z : Value) (bytes : Nat) (ht : P.underlying t = some (.slice e)) (hi : P.info? e = some i) (hz : i.zero = some z) (hsize : i.size = 1) (hby : i.bytes = bytes) (hzs : z.cells.size = 1) (hb8 : bytes ≤ 8)
    (k : IntKind) (base : Nat) (v : Value) (l : List Int) (hs : a.eval s = v) (hown : Own e k base w v l) (ao : Option Addr) (m c : Nat) (ns : List Int) (hx : a.eval x = .slice ao m c) (hm : ns.length = m)
    (hr : Rd k w ao m (fun i => ns.getD i 0)) (hnil : ao = none → m = 0 ∧ c = 0) (hb : l.length + m ≤ 1000000) (hbase : base ≤ w.heap.size) (B : Nat) (hB : B ≤ base) (hbel : Below B w0 w)
    (h : ∀ v' w', Own e k base w' v' (l ++ ns) → Below B w0 w' → w.heap.size ≤ w'.heap.size → wpList P ops Q rest (a.put o.dst v') w') : wpList P ops Q (o :: rest) a w := by
  cases ao with
  | none =>
    obtain ⟨rfl, rfl⟩ := hnil rfl
    have : ns = [] := List.eq_nil_of_length_eq_zero hm
    subst this
    exact wpList_append_own_none hgd s x t ho base e i 1 ht hi v l.length (l.map (Value.int k)) hs hown hx (h v w (by simpa using hown) hbel (Nat.le_refl _))
  | some ad =>
    refine wpList_append_own w hgd s x t ho base e i z 1 bytes ht hi hz hsize hby hzs (by omega) v l.length (l.map (Value.int k)) hs hown ad m c (ns.map (Value.int k)) hx (by simp [hm]) ?_ ?_ (by unfold maxLen; omega) ?_ hbase ?_
    · intro j u hu
      rw [List.getElem?_map] at hu
      have hj : j < ns.length := by
        rcases Nat.lt_or_ge j ns.length with q | q
        · exact q
        · rw [List.getElem?_eq_none q] at hu; simp at hu
      obtain ⟨b, off, hab, hc, _⟩ := hr.2 j (by omega)
      obtain rfl := Option.some.inj hab
      rw [Addr.add_lit, hc, ← hu]
      simp [List.getD_eq_getElem?_getD, List.getElem?_eq_getElem hj]
    · intro u hu
      obtain ⟨n, _, rfl⟩ := List.mem_map.1 hu
      rfl
    · have : (l.length + m) * bytes ≤ (l.length + m) * 8 := Nat.mul_le_mul_left _ hb8
      omega
    · intro v' w' hown' hgrow _
      refine h v' w' ?_ (hbel.grown hgrow (Nat.le_trans hB hbase) (fun k hk => Nat.le_trans hB (hown.lt k hk).1)) hgrow.size
      unfold Own
      rw [List.length_append, List.map_append, hm]
      exact hown'
theorem strCells_of (l : List UInt8) : Lib.strCells ⟨l.toArray⟩ = (l.map fun b => (b.toNat : Int)).map (Value.int .u8) := by simp [Lib.strCells, Function.comp_def]
/-- append(v, s...), s a string. -/
theorem app_string (hgd : o.guard = none) (s x : Operand) (t u : TypeId) (ho : o.op = .call { callee := .builtin .append, args := #[s, x], argTypes := #[t, u] })
    (e : TypeId) (i : TypeInfo) (ht : P.underlying t = some (.slice e)) (hu : P.underlying u = some .string) (hi : P.info? e = some i) (hz : i.zero = some (.int .u8 0)) (hsize : i.size = 1) (hby : i.bytes = 1)
    (base : Nat) (v : Value) (l : List Int) (hs : a.eval s = v) (hown : Own e .u8 base w v l) (ns : List UInt8) (hx : a.eval x = .string ⟨ns.toArray⟩)
    (hb : l.length + ns.length ≤ 1000000) (hbase : base ≤ w.heap.size) (B : Nat) (hB : B ≤ base) (hbel : Below B w0 w)
    (h : ∀ v' w', Own e .u8 base w' v' (l ++ ns.map fun b => (b.toNat : Int)) → Below B w0 w' → w.heap.size ≤ w'.heap.size → wpList P ops Q rest (a.put o.dst v') w') : wpList P ops Q (o :: rest) a w := by
  have hsz : ByteArray.size ⟨ns.toArray⟩ = ns.length := by simp [ByteArray.size]
  refine Lib.wpList_append_own_string w hgd s x t u ho base e i ht hu hi hz hsize hby v l.length (l.map (Value.int .u8)) hs hown ⟨ns.toArray⟩ hx (by rw [hsz]; unfold maxLen; omega) (by rw [hsz]; omega) hbase ?_
  intro v' w' hown' hgrow _
  refine h v' w' ?_ (hbel.grown hgrow (Nat.le_trans hB hbase) (fun k hk => Nat.le_trans hB (hown.lt k hk).1)) hgrow.size
  unfold Own
  rw [List.length_append, List.map_append, List.length_map, ← strCells_of]
  rw [hsz] at hown'
  exact hown'
end
end Go.Proofs.YtkjhamcmhijhgaaGreat.Dig

/- Rows of numbers that are read, or that are a call's own; parts of them; append; the document's Same. -/
namespace Go.Proofs.YtkjhamcmhijhgaaGreat.Dq
open Go.RowKit Go.Proofs.YtkjhamcmhijhgaaGreat.Dig Go.Proofs.YtkjhamcmhijhgaaGreat.Mem
set_option linter.unusedVariables false
set_option linter.unusedSimpArgs false

/-- A slice value that reads a list of numbers. -/
structure RowI (w : World) (a : Option Addr) (c : Nat) (l : List Int) : Prop where
  cap : l.length ≤ c
  rd : Rd .i64 w a l.length (fun i => l.getD i 0)
  nil : a = none → c = 0
theorem RowI.keep {w w' : World} {a : Option Addr} {c : Nat} {l : List Int} (h : RowI w a c l) (hb : Below w.heap.size w w') : RowI w' a c l := ⟨h.cap, h.rd.keep hb, h.nil⟩
theorem RowI.at {w : World} {a : Option Addr} {c : Nat} {l : List Int} (h : RowI w a c l) {i : Nat} (hi : i < l.length) : ∃ b off, a = some ⟨b, off, none⟩ ∧ w.cell? ⟨b, off + i, none⟩ = some (.int .i64 (l.getD i 0)) := by
  obtain ⟨b, off, e, hc, _⟩ := h.rd.2 i hi
  exact ⟨b, off, e, hc⟩
theorem RowI.wf {w : World} {a : Option Addr} {c : Nat} {l : List Int} (h : RowI w a c l) : ∀ n ∈ l, (Lit.int .i64 n).wf = true := fun n hn => by
  obtain ⟨i, hi, e⟩ := List.getElem_of_mem hn
  obtain ⟨_, _, _, _, hw⟩ := h.rd.2 i hi
  have : (fun i => l.getD i 0) i = n := by show l.getD i 0 = n; rw [List.getD_eq_getElem?_getD, List.getElem?_eq_getElem hi]; exact e
  rw [this] at hw
  exact hw
theorem Tryz.infoInt : (Tryz.prog.info? 3).map (fun i => (i.zero, i.size, i.bytes)) = some (some (.int .i64 0), 1, 8) := by kernel_rfl
def OwnI (base : Nat) (w : World) (v : Value) (l : List Int) : Prop := w.ownsRow base 3 1 v l.length (l.map (Value.int .i64))
/-- A row that lies in no block older than B. -/
def Fresh (B : Nat) (a : Option Addr) : Prop := ∀ x, a = some x → B ≤ x.block
theorem fresh_own {w : World} {base e : TypeId} {a : Option Addr} {n c : Nat} {xs : List Value} (h : w.ownsRow base e 1 (.slice a n c) n xs) : Fresh base a := fun x e => by
  subst e
  exact (World.ownsRow.lt h x.block rfl).1
theorem OwnI.row {base : Nat} {w : World} {v : Value} {l : List Int} (h : OwnI base w v l) (hl : l.length ≤ 1000000000000) (hw : ∀ n ∈ l, (Lit.int .i64 n).wf = true) : ∃ a c, v = .slice a l.length c ∧ RowI w a c l ∧ Fresh base a := by
  obtain ⟨a, cap, e, h1, h2⟩ := Rd.own h hl hw
  refine ⟨a, cap, e, ⟨h1, h2, fun q => ?_⟩, by subst e; exact fresh_own h⟩
  subst q
  rcases h.2 with ⟨hv, _⟩ | ⟨g, cap', cur, hv, _⟩
  · rw [hv] at e; injection e with e1 e2 e3; exact e3.symm
  · rw [hv] at e; injection e with e1; cases e1
theorem own_form {w : World} {base e : TypeId} {v : Value} {n : Nat} {xs : List Value} (h : w.ownsRow base e 1 v n xs) : ∃ a c, v = .slice a n c := by
  rcases h.2 with ⟨rfl, h0⟩ | ⟨g, cap, cur, rfl, _⟩
  · have : n = 0 := by omega
    exact ⟨none, 0, by rw [this]⟩
  · exact ⟨_, _, rfl⟩
theorem owns_below {w w' : World} {e base : TypeId} {v : Value} {n : Nat} {xs : List Value} (h : w.ownsRow base e 1 v n xs) (hb : Below w.heap.size w w') : w'.ownsRow base e 1 v n xs := by
  refine ⟨h.1, ?_⟩
  rcases h.2 with hn | ⟨g, cap, cur, rfl, hg, hh, r⟩
  · exact .inl hn
  · have hlt : g < w.heap.size := by
      rcases Nat.lt_or_ge g w.heap.size with q | q
      · exact q
      · simp [Array.getElem?_eq_none q] at hh
    exact .inr ⟨g, cap, cur, rfl, hg, by rw [hb.block g hlt]; exact hh, r⟩
/-- A row, up to a place. -/
theorem rowi_take {w : World} {a : Option Addr} {c : Nat} {l : List Int} (hW : RowI w a c l) (m : Nat) : RowI w a c (l.take m) := by
  refine ⟨by have := hW.cap; rw [List.length_take]; omega, ⟨by have := hW.rd.1; rw [List.length_take]; omega, fun i hi => ?_⟩, fun e => ?_⟩
  · rw [List.length_take] at hi
    obtain ⟨b, off, rfl, hcell, hwf⟩ := hW.rd.2 i (by omega)
    have him : i < m := by omega
    have e : (l.take m).getD i 0 = l.getD i 0 := by simp [List.getD_eq_getElem?_getD, List.getElem?_take, him]
    refine ⟨b, off, rfl, ?_, ?_⟩
    · show _ = some (Value.int .i64 ((l.take m).getD i 0))
      rw [e]
      exact hcell
    · show (Lit.int .i64 ((l.take m).getD i 0)).wf = true
      rw [e]
      exact hwf
  · have := hW.nil e
    omega
/-- A row, from a place on. -/
theorem slice_from {w : World} {a : Option Addr} {c : Nat} {l : List Int} (h : RowI w a c l) (m : Nat) (hm : m ≤ l.length) :
    ∃ a2 c2, (∀ W : World, (Instr.slice 22 (.slice a l.length c) (some (.int .i64 (m : Int))) none none).run Tryz.prog W = .ok (.slice a2 (l.drop m).length c2) W) ∧ ∀ W, RowI W a c l → RowI W a2 c2 (l.drop m) := by
  have hel : Tryz.prog.elem 22 = 3 := by kernel_rfl
  have hu : Tryz.prog.underlying 22 = some (.slice (Tryz.prog.elem 22)) := by rw [hel]; exact Tryz.underlying22
  have hr : ∀ W : World, (Instr.slice 22 (.slice a l.length c) (some (.int .i64 (m : Int))) none none).run Tryz.prog W = .ok (sliced a m l.length c 1) W := fun W => by
    rw [run_slice_l (t := 22) (a := a) (len := l.length) (cap := c) (w := W) hu .i64 (m : Int) (by omega) (by omega), hel, Tryz.sizeOf3]
    simp [Result.andThen]
  refine ⟨if c = m then a else a.map (·.add (m * 1)), c - m, fun W => by rw [hr W, List.length_drop]; rfl, fun W hW => ⟨by have := hW.cap; rw [List.length_drop]; omega, ⟨by have := hW.rd.1; rw [List.length_drop]; omega, fun i hi => ?_⟩, fun e => ?_⟩⟩
  · rw [List.length_drop] at hi
    have hc := hW.cap
    obtain ⟨b, off, rfl, hcell, hwf⟩ := hW.rd.2 (m + i) (by omega)
    have e : (l.drop m).getD i 0 = l.getD (m + i) 0 := by simp [List.getD_eq_getElem?_getD]
    refine ⟨b, off + m, ?_, ?_, ?_⟩
    · rw [if_neg (by omega), Nat.mul_one]
      simp [Addr.add_lit]
    · show _ = some (Value.int .i64 ((l.drop m).getD i 0))
      rw [e, Nat.add_assoc]
      exact hcell
    · show (Lit.int .i64 ((l.drop m).getD i 0)).wf = true
      rw [e]
      exact hwf
  · have : a = none := by
      split at e
      · exact e
      · cases a with
        | none => rfl
        | some x => simp at e
    have := hW.nil this
    omega
/-- append of a row that is read. -/
theorem app_rowi {w w0 : World} {ops : Array Oper} {rest : List Oper} {o : Oper} {a : Act} {Q : Exit → Act → World → Prop} (hgd : o.guard = none) (s x : Operand)
    (ho : o.op = .call { callee := .builtin .append, args := #[s, x], argTypes := #[22, 22] }) (base : Nat) (v : Value) (l : List Int) (hs : a.eval s = v) (hown : Dig.Own 3 .i64 base w v l)
    (ao : Option Addr) (c m : Nat) (r : List Int) (hx : a.eval x = .slice ao m c) (hm : m = r.length) (hr : RowI w ao c r) (hb : l.length + r.length ≤ 1000000) (hbase : base ≤ w.heap.size) (hbel : Below base w0 w)
    (h : ∀ v' w', Dig.Own 3 .i64 base w' v' (l ++ r) → Below base w0 w' → w.heap.size ≤ w'.heap.size → wpList Tryz.prog ops Q rest (a.put o.dst v') w') : wpList Tryz.prog ops Q (o :: rest) a w := by
  obtain ⟨i0, hi, hz0, hz1, hz2⟩ := info_parts Tryz.infoInt
  subst hm
  refine app_slice hgd s x 22 ho 3 i0 (.int .i64 0) 8 Tryz.underlying22 hi hz0 hz1 hz2 rfl (by decide) .i64 base v l hs hown ao r.length c r hx rfl hr.rd (fun e => ⟨?_, hr.nil e⟩) (by omega) hbase base (Nat.le_refl _) hbel h
  cases r with
  | nil => rfl
  | cons y r => obtain ⟨b, off, e', _⟩ := hr.at (i := 0) (by simp); rw [e] at e'; cases e'
theorem ext_getI {a b : List Int} (hl : a.length = b.length) (h : ∀ k, k < a.length → a.getD k 0 = b.getD k 0) : a = b := by
  apply List.ext_getElem hl
  intro i h1 h2
  have := h i h1
  rw [List.getD_eq_getElem?_getD, List.getD_eq_getElem?_getD, List.getElem?_eq_getElem h1, List.getElem?_eq_getElem h2] at this
  exact this
set_option maxHeartbeats 1000000 in
theorem same_is (x y : Option Addr) (c d : Nat) (a b : List Int) (w : World) (ha : RowI w x c a) (hb : RowI w y d b) :
    Calls Tryz.prog 14 #[.slice x a.length c, .slice y b.length d] w fun e w' => e = .returned (.bool (decide (a = b))) ∧ Below w.heap.size w w' := by
  have l1 := ha.rd.le
  have l2 := hb.rd.le
  by_cases hl : a.length = b.length
  · have HA := hide ha
    have HB := hide hb
    have HX := hide (ext_getI hl)
    obtain ⟨n, hn⟩ : ∃ n, n = a.length := ⟨_, rfl⟩
    have hnb : b.length = n := by rw [hn]; omega
    have HN := hide hn
    have HNB := hide hnb
    rw [← hn, hnb]
    rw [← hn] at l1 HX
    have g0 : ((n : Int) != n) = false := by simp
    clear ha hb hl hn hnb l2
    go_enter Tryz.func14, Tryz.ntmps14
    go_wp2
    go_loopw [5] (fun i wr => (∃ k : Nat, k ≤ n ∧ i = .int .i64 (k : Int) ∧ Hid (∀ j, j < k → a.getD j 0 = b.getD j 0)) ∧ Hid (Below w.heap.size w wr)) (fun i _ => n - (intOf i).toNat)
    case atStart => exact ⟨⟨0, by omega, rfl, fun j hj => by omega⟩, Below.refl _ _⟩
    case round =>
      obtain ⟨⟨k, hk, rfl, hx⟩, hbel⟩ := hrel
      by_cases hlt : k < n
      · obtain ⟨b1, o1, rfl, hc1⟩ := (HA.out.keep hbel.out).at (show k < a.length by rw [← HN.out]; exact hlt)
        obtain ⟨b2, o2, rfl, hc2⟩ := (HB.out.keep hbel.out).at (show k < b.length by rw [HNB.out]; exact hlt)
        obtain ⟨p, hp⟩ : ∃ p, p = a.getD k 0 := ⟨_, rfl⟩
        obtain ⟨q, hq⟩ : ∃ q, q = b.getD k 0 := ⟨_, rfl⟩
        rw [← hp] at hc1
        rw [← hq] at hc2
        have HP := hide hp
        have HQ := hide hq
        clear hp hq
        by_cases hpq : p = q
        · have g1 : (p != q) = false := by simp [hpq]
          have HE := hide hpq
          clear hpq
          go_wp2
          go_region
          all_goals
            go_wp2
            go_roundw
            case rel => exact ⟨⟨k + 1, by omega, by go_num, fun j hj => by
              by_cases e : j = k
              · subst e; rw [← HP.out, ← HQ.out]; exact HE.out
              · exact hx.out j (by omega)⟩, by (repeat (first | exact hbel.out | apply Below.drew))⟩
            case measure => simp [intOf]; omega
        · have g1 : (p != q) = true := by simp [hpq]
          have HE : Hid (decide (a = b) = false) := by
            show _ = _
            rw [decide_eq_false_iff_not]
            intro e
            exact hpq (by rw [HP.out, HQ.out, e])
          clear hpq
          go_wp2
          go_region
          all_goals
            go_wp2
            go_ret
            rw [HE.out]
            exact ⟨rfl, by (repeat (first | exact hbel.out | apply Below.drew))⟩
      · obtain rfl : n = k := by omega
        have HE : Hid (decide (a = b) = true) := hide (decide_eq_true (HX.out hx.out))
        have hge : ¬ (n : Int) < n := by omega
        go_wp2
        go_ret
        rw [HE.out]
        exact ⟨rfl, hbel.out⟩
  · have HE : Hid (decide (a = b) = false) := by
      show _ = _
      rw [decide_eq_false_iff_not]
      intro e
      exact hl (by rw [e])
    obtain ⟨n, hn⟩ : ∃ n, n = a.length := ⟨_, rfl⟩
    obtain ⟨m, hm⟩ : ∃ m, m = b.length := ⟨_, rfl⟩
    rw [← hn, ← hm] at hl ⊢
    have g0 : ((n : Int) != m) = true := by simp; omega
    clear ha hb hl hn hm l1 l2
    go_enter Tryz.func14, Tryz.ntmps14
    go_wp2
    go_ret
    rw [HE.out]
    exact ⟨rfl, Below.refl _ _⟩
end Go.Proofs.YtkjhamcmhijhgaaGreat.Dq
