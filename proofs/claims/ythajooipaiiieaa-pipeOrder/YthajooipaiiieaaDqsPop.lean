/- What is at the bottom is taken; what is at the top. -/
import Derived.Test.YthajooipaiiieaaDqsPush
namespace Go.Proofs.Ythajooipaiiieaa.DqS
open Go.RowKit Go.Proofs.Ythajooipaiiieaa.Dig Go.Proofs.Ythajooipaiiieaa.Mem Go.Proofs.Ythajooipaiiieaa.Dq Go.Proofs.Ythajooipaiiieaa.Bit Go.Shelf
set_option linter.unusedVariables false
set_option linter.unusedSimpArgs false

theorem len_none {w : World} {s : Sh} (h : s.At w []) : Calls Try.prog 37 #[s.ptr] w fun e w' => e = .returned (.int .i64 0) ∧ w' = w := len_sh h
theorem steal_none {w : World} {s : Sh} (h : s.At w []) : Calls Try.prog 36 #[s.ptr] w fun e w' => e = .returned (.tuple #[(Value.string ⟨#[]⟩), .bool false]) ∧ w' = w := by
  have HL := hide (len_none h)
  obtain ⟨q, hq⟩ := s.shape
  rw [hq] at HL ⊢
  clear h hq
  go_enter Try.func36, Try.ntmps36
  go_wp2_with (go_at_call 37; go_must ((with_reducible refine (Hid.out HL).mono ?_); rintro e w9 ⟨rfl, rfl⟩))
  refine bodyPost_ret (v := .tuple #[(Value.string ⟨#[]⟩), .bool false]) (by simp [results, Try.results36, go_sem]) rfl ?_
  exact ⟨rfl, rfl⟩
set_option maxHeartbeats 1000000 in
theorem steal_dq {w : World} {b o g n t : Nat} {cs : Array Value} {rs l : List (List UInt8)} {x : (List UInt8)} (h : Dq w b o cs g n t rs (x :: l)) :
    Calls Try.prog 36 #[.pointer (some ⟨b, o, none⟩)] w fun e w' => e = .returned (.tuple #[(Value.string ⟨x.toArray⟩), .bool true]) ∧ Turned w (b, o, cs) (R2 b g) l w' := by
  obtain ⟨k, hk⟩ : ∃ k, k = l.length + 1 := ⟨_, rfl⟩
  have hkl : (x :: l).length = k := by rw [hk]; simp
  have hc := h.ring.cnt
  have hn := h.le
  have ht := h.ring.top
  rw [hkl] at hc
  have HFT := hide h.fit
  obtain ⟨r1, r2⟩ := h.ring.steal ([] : List UInt8)
  have c0 : w.cell? ⟨b, o + 2, none⟩ = some (.int .i64 (k : Int)) := by rw [← hkl]; exact h.cells.2.2
  have HL := hide (len_cell (k := (k : Int)) w c0)
  have HF := lift_dq w h 0 (by omega)
  have e0 : ((l.length : Nat) : Int) = (k : Int) - 1 := by omega
  rw [r2, hkl] at HF
  have HLF : Hid (Calls Try.prog 45 #[.pointer (some ⟨b, o, none⟩), .int .i64 0] w fun e w' => e = .returned (Value.string ⟨x.toArray⟩) ∧
    Is w' b (put3 cs o (.slice (some ⟨g, 0, none⟩) n n) (.int .i64 (t : Int)) (.int .i64 (k : Int))) ∧ Is w' g (cellsOf (rs.set ((t + 0) % n) ([] : List UInt8))) ∧ Only (fun k => k = g) w w') := hide HF
  obtain ⟨t', ht'⟩ : ∃ t', t' = (t + 1) % n := ⟨_, rfl⟩
  have HA : Hid (∀ w1 : World, Is w1 b (put3 cs o (.slice (some ⟨g, 0, none⟩) n n) (.int .i64 (t : Int)) (.int .i64 (k : Int))) → Calls Try.prog 44 #[.pointer (some ⟨b, o, none⟩), .int .i64 1] w1 fun e w' => e = .returned (.int .i64 (t' : Int)) ∧ ∃ m, w' = w1.drewN m) := hide (fun w1 q => by
    rw [ht']
    exact at_cells w1 (is3 q HFT.out).1 (is3 q HFT.out).2.1 ht hn 1 (by omega))
  have HK : Hid (∀ w1 : World, Is w1 b (put3 cs o (.slice (some ⟨g, 0, none⟩) n n) (.int .i64 (t : Int)) (.int .i64 (k : Int))) → Is w1 g (cellsOf (rs.set ((t + 0) % n) ([] : List UInt8))) → Dq ((w1.setCell ⟨b, o + 1, none⟩ (.int .i64 (t' : Int))).setCell ⟨b, o + 2, none⟩ (.int .i64 ((k : Int) - 1))) b o cs g n t' (rs.set ((t + 0) % n) ([] : List UInt8)) l) := hide (fun w1 q1 q2 =>
    ⟨by rw [e0]; exact is3_set2 (is3_set1 q1 _) _, h.fit, (q2.other (p := ⟨b, o + 1, none⟩) h.ne _).other (p := ⟨b, o + 2, none⟩) h.ne _, h.ne, by rw [ht']; exact r1, h.le⟩)
  have hki : (k : Int) ≤ 1000000 := by omega
  have hk1 : 1 ≤ (k : Int) := by omega
  have hk0 : ¬ (k : Int) = 0 := by omega
  clear h hk hkl r1 r2 HF e0 ht'
  go_enter Try.func36, Try.ntmps36
  go_wp2_with (first
    | (go_at_call 37; go_must ((with_reducible refine (Hid.out HL).mono ?_); rintro e w9 ⟨rfl, rfl⟩; clear HL))
    | (go_at_call 45; go_must ((with_reducible refine (Hid.out HLF).mono ?_); rintro e w1 ⟨rfl, q1, q2, q3⟩; have HI := hide q1; have HG := hide q2; have HO := hide q3; clear q1 q2 q3 HLF))
    | (go_at_call 44; go_must ((with_reducible refine ((Hid.out HA) _ HI.out).mono ?_); rintro e w2 ⟨rfl, m, rfl⟩; have c1 := (is3 (HI.out.drewN m) HFT.out).2.1; have c2 := (is3 (HI.out.drewN m) HFT.out).2.2; have f1 := (HI.out.drewN m).frozen (o + 1); have f2 := (HI.out.drewN m).frozen (o + 2); have HD := hide (HK.out _ (HI.out.drewN m) (HG.out.drewN m)); replace HO := hide (HO.out.drewN m); clear HI HG HA HK; generalize w1.drewN m = w2 at *))
    | (go_at_call 46; go_must ((with_reducible refine (shrink_dq HD.out).mono ?_); rintro e w3 ⟨rfl, q⟩; have HT := hide q; clear q)))
  refine bodyPost_ret (v := .tuple #[(Value.string ⟨x.toArray⟩), .bool true]) (by simp [results, Try.results36, go_sem]) rfl ?_
  exact ⟨rfl, Turned.trans (((HO.out.mono (fun k q => .inr q)).setCell (p := ⟨b, o + 1, none⟩) (.inl (.inl rfl)) _).setCell (p := ⟨b, o + 2, none⟩) (.inl (.inl rfl)) _) (fun k q => .inl q) HT.out⟩
theorem steal_sh {w : World} {s : Sh} {l : List (List UInt8)} {x : (List UInt8)} (h : s.At w (x :: l)) {b o : Nat} {cs : Array Value} (hp : s.place = some (b, o, cs)) : Calls Try.prog 36 #[.pointer (some ⟨b, o, none⟩)] w fun e w' => e = .returned (.tuple #[(Value.string ⟨x.toArray⟩), .bool true]) ∧ Turned w (b, o, cs) s.has l w' := by
  cases s with
  | nil => cases hp
  | bare b' o' cs' => have e : x :: l = [] := h.2.2; simp at e
  | ring b' o' cs' g n t rs => cases hp; exact steal_dq h
end Go.Proofs.Ythajooipaiiieaa.DqS
