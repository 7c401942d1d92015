/- A pipe as it lies: a deque in its first three cells, then the room, how many were sent, and whether it is closed; what each call of it does. -/
import Derived.Test.YthajooipaiiieaaDqsPop
import Derived.Test.YthajooipaiiieaaThings
namespace Go.Proofs.Ythajooipaiiieaa.DqS
open Go.RowKit Go.Proofs.Ythajooipaiiieaa.Dig Go.Proofs.Ythajooipaiiieaa.Mem Go.Proofs.Ythajooipaiiieaa.Dq Go.Proofs.Ythajooipaiiieaa.Bit Go.Proofs.Ythajooipaiiieaa.Thing Go.Shelf
set_option linter.unusedVariables false
set_option linter.unusedSimpArgs false

/-- Another cell of a deque's block is turned. -/
theorem Sh.swap {w : World} {s : Sh} {l : List (List UInt8)} (h : s.At w l) {b o : Nat} {cs : Array Value} (hp : s.place = some (b, o, cs)) {i : Nat} (hi : i < o ∨ o + 3 ≤ i) (u : Value) :
    ∃ s' : Sh, s'.At (w.setCell ⟨b, i, none⟩ u) l ∧ s'.place = some (b, o, cs.setIfInBounds i u) ∧ ∀ k, s'.has k ↔ s.has k := by
  cases s with
  | nil => cases hp
  | bare b' o' cs' =>
    cases hp
    obtain ⟨h1, h2, h3⟩ := h
    exact ⟨.bare b o (cs.setIfInBounds i u), ⟨by rw [← put3_swap hi]; exact h1.set i u, by simpa using h2, h3⟩, rfl, fun _ => Iff.rfl⟩
  | ring b' o' cs' g n t rs =>
    cases hp
    have h' : Dq w b o cs g n t rs l := h
    exact ⟨.ring b o (cs.setIfInBounds i u) g n t rs, ⟨by rw [← put3_swap hi]; exact h'.box.set i u, by simpa using h'.fit, h'.row.other (p := ⟨b, i, none⟩) h'.ne u, h'.ne, h'.ring, h'.le⟩, rfl, fun _ => Iff.rfl⟩
/-- The block's other cells: the room, how many were sent, and whether it is closed. -/
def pcs (r n : Nat) (c : Bool) : Array Value := #[undef, undef, undef, .int .i64 (r : Int), .int .i64 (n : Int), .bool c]
def pipeT (b : Nat) (r n : Nat) (c : Bool) (l : List (List UInt8)) (s : Sh) : Th where
  P w := s.At w l ∧ s.place = some (b, 0, pcs r n c)
  F := s.has
  keep h ho hs := ⟨Sh.keep h.1 ho hs, h.2⟩
  lt h := Sh.lt h.1
section
variable {w : World} {b r n : Nat} {c : Bool} {l : List (List UInt8)} {s : Sh} {x : (List UInt8)}
theorem pipe_cells (h : (pipeT b r n c l s).P w) : (w.cell? ⟨b, 3, none⟩ = some (.int .i64 (r : Int)) ∧ w.cell? ⟨b, 4, none⟩ = some (.int .i64 (n : Int)) ∧ w.cell? ⟨b, 5, none⟩ = some (.bool c)) ∧ w.frozen? ⟨b, 4, none⟩ = false ∧ w.frozen? ⟨b, 5, none⟩ = false := by
  obtain ⟨h, hp⟩ := h
  obtain ⟨_, _, c0, c1, hI⟩ := Sh.box h hp
  exact ⟨⟨hI.cell 3 rfl, hI.cell 4 rfl, hI.cell 5 rfl⟩, hI.frozen 4, hI.frozen 5⟩
theorem pipe_drewN (h : (pipeT b r n c l s).P w) (m : Nat) : (pipeT b r n c l s).P (w.drewN m) := (pipeT b r n c l s).keep h ((Only.refl (fun _ => False) w).drewN m) (fun _ _ q => q)
/-- The count is turned. -/
theorem pipe_sent (h : (pipeT b r n c l s).P w) (m : Nat) : ∃ s', (pipeT b r m c l s').P (w.setCell ⟨b, 4, none⟩ (.int .i64 (m : Int))) ∧ ∀ k, s'.has k ↔ s.has k := by
  obtain ⟨s', h1, h2, h3⟩ := Sh.swap h.1 h.2 (i := 4) (.inr (by decide)) (.int .i64 (m : Int))
  exact ⟨s', ⟨h1, h2⟩, h3⟩
theorem pipe_shut (h : (pipeT b r n c l s).P w) (d : Bool) : ∃ s', (pipeT b r n d l s').P (w.setCell ⟨b, 5, none⟩ (.bool d)) ∧ ∀ k, s'.has k ↔ s.has k := by
  obtain ⟨s', h1, h2, h3⟩ := Sh.swap h.1 h.2 (i := 5) (.inr (by decide)) (.bool d)
  exact ⟨s', ⟨h1, h2⟩, h3⟩
theorem pipe_has (h : (pipeT b r n c l s).P w) : s.has b := (Sh.box h.1 h.2).1
theorem pipe_made (w : World) (r : Nat) (T : TypeId) {b : Nat} (hb : b = w.heap.size) : (pipeT b r 0 false [] (.bare b 0 (pcs r 0 false))).P (w.alloc (.cells #[.slice none 0 0, .int .i64 0, .int .i64 0, .int .i64 (r : Int), .int .i64 0, .bool false] T)) :=
  ⟨⟨Is.made w _ T hb, by simp [pcs], rfl⟩, rfl⟩
theorem plen (h : (pipeT b r n c l s).P w) : Calls Try.prog 24 #[.pointer (some ⟨b, 0, none⟩)] w fun e w' => e = .returned (.int .i64 (l.length : Int)) ∧ w' = w := by
  have HL := hide (len_sh h.1)
  rw [Sh.ptr_of h.2] at HL
  clear h
  go_enter Try.func24, Try.ntmps24
  go_wp2_with (go_at_call 37; go_must ((with_reducible refine (Hid.out HL).mono ?_); rintro e w9 ⟨rfl, rfl⟩))
  go_ret
  exact ⟨rfl, rfl⟩
theorem plen_nil (w : World) : Calls Try.prog 24 #[.pointer none] w fun e w' => e = .returned (.int .i64 0) ∧ w' = w := by
  go_enter Try.func24, Try.ntmps24
  go_wp2
  go_ret
  exact ⟨rfl, rfl⟩
theorem proom (h : (pipeT b r n c l s).P w) : Calls Try.prog 25 #[.pointer (some ⟨b, 0, none⟩)] w fun e w' => e = .returned (.int .i64 (r : Int)) ∧ w' = w := by
  obtain ⟨⟨h3, h4, h5⟩, _⟩ := pipe_cells h
  clear h
  go_enter Try.func25, Try.ntmps25
  go_wp2
  go_ret
  exact ⟨rfl, rfl⟩
theorem proom_nil (w : World) : Calls Try.prog 25 #[.pointer none] w fun e w' => e = .returned (.int .i64 0) ∧ w' = w := by
  go_enter Try.func25, Try.ntmps25
  go_wp2
  go_ret
  exact ⟨rfl, rfl⟩
theorem pclosed (h : (pipeT b r n c l s).P w) : Calls Try.prog 38 #[.pointer (some ⟨b, 0, none⟩)] w fun e w' => e = .returned (.bool c) ∧ w' = w := by
  obtain ⟨⟨h3, h4, h5⟩, _⟩ := pipe_cells h
  clear h
  go_enter Try.func38, Try.ntmps38
  go_wp2
  go_ret
  exact ⟨rfl, rfl⟩
theorem pclosed_nil (w : World) : Calls Try.prog 38 #[.pointer none] w fun e w' => e = .returned (.bool false) ∧ w' = w := by
  go_enter Try.func38, Try.ntmps38
  go_wp2
  go_ret
  exact ⟨rfl, rfl⟩
theorem pdone (h : (pipeT b r n c l s).P w) {d : Bool} (hd : d = (c && decide (l = []))) : Calls Try.prog 26 #[.pointer (some ⟨b, 0, none⟩)] w fun e w' => e = .returned (.bool d) ∧ w' = w := by
  have HC := hide (pclosed h)
  have HL := hide (plen h)
  have hm : decide (l = []) = decide (l.length = 0) := by cases l <;> simp
  rw [hm] at hd
  obtain ⟨m, hm⟩ : ∃ m, m = l.length := ⟨_, rfl⟩
  rw [← hm] at hd HL
  clear h hm
  cases c with
  | false =>
    obtain rfl : d = false := by simpa using hd
    clear hd
    go_enter Try.func26, Try.ntmps26
    go_wp2_with (first
      | (go_at_call 38; go_must ((with_reducible refine (Hid.out HC).mono ?_); rintro e w9 ⟨rfl, rfl⟩))
      | (go_at_call 24; go_must ((with_reducible refine (Hid.out HL).mono ?_); rintro e w9 ⟨rfl, rfl⟩)))
    go_ret
    exact ⟨rfl, rfl⟩
  | true =>
    by_cases h0 : m = 0
    · subst h0
      obtain rfl : d = true := by simpa using hd
      clear hd
      go_enter Try.func26, Try.ntmps26
      go_wp2_with (first
        | (go_at_call 38; go_must ((with_reducible refine (Hid.out HC).mono ?_); rintro e w9 ⟨rfl, rfl⟩))
        | (go_at_call 24; go_must ((with_reducible refine (Hid.out HL).mono ?_); rintro e w9 ⟨rfl, rfl⟩)))
      go_ret
      exact ⟨rfl, rfl⟩
    · obtain rfl : d = false := by simpa [h0] using hd
      have g0 : ((m : Int) == 0) = false := by simpa using h0
      clear hd h0
      go_enter Try.func26, Try.ntmps26
      go_wp2_with (first
        | (go_at_call 38; go_must ((with_reducible refine (Hid.out HC).mono ?_); rintro e w9 ⟨rfl, rfl⟩))
        | (go_at_call 24; go_must ((with_reducible refine (Hid.out HL).mono ?_); rintro e w9 ⟨rfl, rfl⟩)))
      go_ret
      exact ⟨rfl, rfl⟩
theorem pdone_nil (w : World) : Calls Try.prog 26 #[.pointer none] w fun e w' => e = .returned (.bool false) ∧ w' = w := by
  go_enter Try.func26, Try.ntmps26
  go_wp2_with (first
    | (go_at_call 38; go_must ((with_reducible refine (pclosed_nil _).mono ?_); rintro e w9 ⟨rfl, rfl⟩))
    | (go_at_call 24; go_must ((with_reducible refine (plen_nil _).mono ?_); rintro e w9 ⟨rfl, rfl⟩)))
  go_ret
  exact ⟨rfl, rfl⟩
/-- Why nothing may be done with a pipe. -/
def refE (r : Nat) (c : Bool) : Int := if r = 0 then 1 else if c then 11 else 0
theorem refuse_p (h : (pipeT b r n c l s).P w) {k : Int} (hk : k = refE r c) : Calls Try.prog 33 #[.pointer (some ⟨b, 0, none⟩)] w fun e w' => e = .returned (.int .i64 k) ∧ w' = w := by
  have HR := hide (proom h)
  obtain ⟨⟨h3, h4, h5⟩, _⟩ := pipe_cells h
  clear h h3 h4
  by_cases h0 : r = 0
  · subst h0
    obtain rfl : k = 1 := hk
    go_enter Try.func33, Try.ntmps33
    go_wp2_with (go_at_call 25; go_must ((with_reducible refine (Hid.out HR).mono ?_); rintro e w9 ⟨rfl, rfl⟩))
    go_ret
    exact ⟨rfl, rfl⟩
  · have g0 : ((r : Int) == 0) = false := by simpa using h0
    cases c with
    | true =>
      obtain rfl : k = 11 := by simpa [refE, h0] using hk
      clear h0 hk
      go_enter Try.func33, Try.ntmps33
      go_wp2_with (go_at_call 25; go_must ((with_reducible refine (Hid.out HR).mono ?_); rintro e w9 ⟨rfl, rfl⟩))
      go_ret
      exact ⟨rfl, rfl⟩
    | false =>
      obtain rfl : k = 0 := by simpa [refE, h0] using hk
      clear h0 hk
      go_enter Try.func33, Try.ntmps33
      go_wp2_with (go_at_call 25; go_must ((with_reducible refine (Hid.out HR).mono ?_); rintro e w9 ⟨rfl, rfl⟩))
      go_ret
      exact ⟨rfl, rfl⟩
theorem refuse_nil (w : World) : Calls Try.prog 33 #[.pointer none] w fun e w' => e = .returned (.int .i64 1) ∧ w' = w := by
  go_enter Try.func33, Try.ntmps33
  go_wp2_with (go_at_call 25; go_must ((with_reducible refine (proom_nil _).mono ?_); rintro e w9 ⟨rfl, rfl⟩))
  go_ret
  exact ⟨rfl, rfl⟩
theorem without_of {p : Value} {k : Int} (h : Calls Try.prog 33 #[p] w fun e w' => e = .returned (.int .i64 k) ∧ w' = w) : Calls Try.prog 35 #[p] w fun e w' => e = .returned (.int .i64 (if k = 0 then 10 else k)) ∧ w' = w := by
  have HR := hide h
  clear h
  by_cases h0 : k = 0
  · subst h0
    go_enter Try.func35, Try.ntmps35
    go_wp2_with (go_at_call 33; go_must ((with_reducible refine (Hid.out HR).mono ?_); rintro e w9 ⟨rfl, rfl⟩))
    go_ret
    exact ⟨rfl, rfl⟩
  · have g0 : (k != 0) = true := by simpa using h0
    rw [if_neg h0]
    clear h0
    go_enter Try.func35, Try.ntmps35
    go_wp2_with (go_at_call 33; go_must ((with_reducible refine (Hid.out HR).mono ?_); rintro e w9 ⟨rfl, rfl⟩))
    go_ret
    exact ⟨rfl, rfl⟩
/-- What a call leaves of a pipe. -/
def Now (w : World) (b r n : Nat) (c : Bool) (l : List (List UInt8)) (S : Nat → Prop) (w' : World) : Prop := ∃ s', (pipeT b r n c l s').P w' ∧ (∀ k, s'.has k → S k ∨ w.heap.size ≤ k) ∧ Only S w w'
theorem send_not {p : Value} {k : Int} (hk : k ≠ 0) (x : (List UInt8)) (h : Calls Try.prog 33 #[p] w fun e w' => e = .returned (.int .i64 k) ∧ w' = w) : Calls Try.prog 21 #[p, (Value.string ⟨x.toArray⟩)] w fun e w' => e = .returned (.int .i64 k) ∧ w' = w := by
  have HR := hide h
  have g0 : (k != 0) = true := by simpa using hk
  clear h hk
  go_enter Try.func21, Try.ntmps21
  go_wp2_with (go_at_call 33; go_must ((with_reducible refine (Hid.out HR).mono ?_); rintro e w9 ⟨rfl, rfl⟩))
  go_ret
  exact ⟨rfl, rfl⟩
theorem send_full (h : (pipeT b r n false l s).P w) (hr : r ≠ 0) (hl : l.length = r) (x : (List UInt8)) : Calls Try.prog 21 #[.pointer (some ⟨b, 0, none⟩), (Value.string ⟨x.toArray⟩)] w fun e w' => e = .returned (.int .i64 9) ∧ ∃ m, w' = w.drewN m := by
  have HR := hide (refuse_p h (k := 0) (by simp [refE, hr]))
  have HL : Hid (∀ m, Calls Try.prog 24 #[.pointer (some ⟨b, 0, none⟩)] (w.drewN m) fun e w' => e = .returned (.int .i64 (r : Int)) ∧ w' = w.drewN m) := hide (fun m => by
    have := plen (pipe_drewN h m)
    rw [hl] at this
    exact this)
  obtain ⟨⟨h3, h4, h5⟩, _⟩ := pipe_cells h
  clear h h4 h5 hl
  go_enter Try.func21, Try.ntmps21
  go_wp2_with (go_at_call 33; go_must ((with_reducible refine (Hid.out HR).mono ?_); rintro e w9 ⟨rfl, rfl⟩))
  go_quiet ((go_at_call 24; exact Calls.quiet_of_same (HL.out _)))
  go_wp2
  go_ret
  exact ⟨rfl, _, rfl⟩
set_option maxHeartbeats 1000000 in
theorem send_ok (h : (pipeT b r n false l s).P w) (hr : r ≠ 0) (hr2 : r ≤ 64) (hl : l.length < r) (hn : n ≤ 1000000) (x : (List UInt8)) : Calls Try.prog 21 #[.pointer (some ⟨b, 0, none⟩), (Value.string ⟨x.toArray⟩)] w fun e w' => e = .returned (.int .i64 0) ∧ Now w b r (n + 1) false (l ++ [x]) s.has w' := by
  have HR := hide (refuse_p h (k := 0) (by simp [refE, hr]))
  obtain ⟨m, hm⟩ : ∃ m, m = l.length := ⟨_, rfl⟩
  have HL : Hid (∀ q, Calls Try.prog 24 #[.pointer (some ⟨b, 0, none⟩)] (w.drewN q) fun e w' => e = .returned (.int .i64 (m : Int)) ∧ w' = w.drewN q) := hide (fun q => by
    have := plen (pipe_drewN h q)
    rw [← hm] at this
    exact this)
  have HP := hide (fun q => push_sh (pipe_drewN h q).1 h.2 x (by omega))
  have HB := hide (pipe_has h)
  have g0 : ((m : Int) == (r : Int)) = false := by simp; omega
  obtain ⟨⟨h3, h4, h5⟩, _⟩ := pipe_cells h
  clear h h4 h5 hl hm
  go_enter Try.func21, Try.ntmps21
  go_wp2_with (go_at_call 33; go_must ((with_reducible refine (Hid.out HR).mono ?_); rintro e w9 ⟨rfl, rfl⟩))
  go_quiet ((go_at_call 24; exact Calls.quiet_of_same (HL.out _)))
  go_wp2_with (go_at_call 34; go_must ((with_reducible refine (Hid.out HP nq).mono ?_); rintro e w2 ⟨rfl, ⟨s2, q1, q2, q3⟩, q4⟩; have HQ : Hid ((pipeT b r n false (l ++ [x]) s2).P w2) := hide ⟨q1, q2⟩; have HF := hide q3; have HO := hide q4; obtain ⟨⟨_, h4, _⟩, f4, _⟩ := pipe_cells HQ.out; clear q1 q2 q3 q4))
  go_ret
  obtain ⟨s3, k1, k2⟩ := pipe_sent HQ.out (n + 1)
  refine ⟨rfl, s3, ?_, fun k hk => HF.out k ((k2 k).1 hk), (((Only.refl _ _).drewN nq).trans HO.out).setCell (p := ⟨b, 4, none⟩) (.inl HB.out) _⟩
  simpa using k1
theorem recv_none {p : Value} {k k' : Int} (h0 : Calls Try.prog 24 #[p] w fun e w' => e = .returned (.int .i64 0) ∧ w' = w) (h : Calls Try.prog 33 #[p] w fun e w' => e = .returned (.int .i64 k) ∧ w' = w) (hk : k' = if k = 0 then 10 else k) : Calls Try.prog 23 #[p] w fun e w' => e = .returned (.tuple #[(Value.string ⟨#[]⟩), .int .i64 k']) ∧ w' = w := by
  have HL := hide h0
  have HW := hide (without_of h)
  rw [← hk] at HW
  clear h h0 hk
  go_enter Try.func23, Try.ntmps23
  go_wp2_with (first
    | (go_at_call 24; go_must ((with_reducible refine (Hid.out HL).mono ?_); rintro e w9 ⟨rfl, rfl⟩))
    | (go_at_call 35; go_must ((with_reducible refine (Hid.out HW).mono ?_); rintro e w9 ⟨rfl, rfl⟩)))
  refine bodyPost_ret (v := .tuple #[(Value.string ⟨#[]⟩), .int .i64 k']) (by simp [results, Try.results23, go_sem]) rfl ?_
  exact ⟨rfl, rfl⟩
theorem recv_ok (h : (pipeT b r n c (x :: l) s).P w) : Calls Try.prog 23 #[.pointer (some ⟨b, 0, none⟩)] w fun e w' => e = .returned (.tuple #[(Value.string ⟨x.toArray⟩), .int .i64 0]) ∧ Now w b r n c l s.has w' := by
  have HL := hide (plen h)
  have HS := hide (steal_sh h.1 h.2)
  obtain ⟨m, hm⟩ : ∃ m, m = (x :: l).length := ⟨_, rfl⟩
  rw [← hm] at HL
  have g0 : ((m : Int) == 0) = false := by rw [hm]; simp; omega
  clear h hm
  go_enter Try.func23, Try.ntmps23
  go_wp2_with (first
    | (go_at_call 24; go_must ((with_reducible refine (Hid.out HL).mono ?_); rintro e w9 ⟨rfl, rfl⟩))
    | (go_at_call 36; go_must ((with_reducible refine (Hid.out HS).mono ?_); rintro e w2 ⟨rfl, ⟨s2, q1, q2, q3⟩, q4⟩)))
  refine bodyPost_ret (v := .tuple #[(Value.string ⟨x.toArray⟩), .int .i64 0]) (by simp [results, Try.results23, go_sem]) rfl ?_
  exact ⟨rfl, s2, ⟨q1, q2⟩, q3, q4⟩
theorem close_not {p : Value} {k : Int} (hk : k ≠ 0) (h : Calls Try.prog 33 #[p] w fun e w' => e = .returned (.int .i64 k) ∧ w' = w) : Calls Try.prog 22 #[p] w fun e w' => e = .returned (.int .i64 k) ∧ w' = w := by
  have HR := hide h
  have g0 : (k != 0) = true := by simpa using hk
  clear h hk
  go_enter Try.func22, Try.ntmps22
  go_wp2_with (go_at_call 33; go_must ((with_reducible refine (Hid.out HR).mono ?_); rintro e w9 ⟨rfl, rfl⟩))
  go_ret
  exact ⟨rfl, rfl⟩
theorem close_ok (h : (pipeT b r n false l s).P w) (hr : r ≠ 0) : Calls Try.prog 22 #[.pointer (some ⟨b, 0, none⟩)] w fun e w' => e = .returned (.int .i64 0) ∧ Now w b r n true l s.has w' := by
  have HR := hide (refuse_p h (k := 0) (by simp [refE, hr]))
  obtain ⟨⟨h3, h4, h5⟩, f4, f5⟩ := pipe_cells h
  have H := hide h
  clear h h3 h4 f4
  go_enter Try.func22, Try.ntmps22
  go_wp2_with (go_at_call 33; go_must ((with_reducible refine (Hid.out HR).mono ?_); rintro e w9 ⟨rfl, rfl⟩))
  go_ret
  obtain ⟨s3, k1, k2⟩ := pipe_shut H.out true
  exact ⟨rfl, s3, k1, fun k hk => .inl ((k2 k).1 hk), (Only.refl _ _).setCell (p := ⟨b, 5, none⟩) (.inl (pipe_has H.out)) _⟩
theorem new_ok (r : Nat) (h1 : 1 ≤ r) (h2 : r ≤ 64) (w : World) : Calls Try.prog 20 #[.int .i64 (r : Int)] w fun e w' => e = .returned (.tuple #[.pointer (some ⟨w.heap.size, 0, none⟩), .int .i64 0]) ∧ w' = w.alloc (.cells #[.slice none 0 0, .int .i64 0, .int .i64 0, .int .i64 (r : Int), .int .i64 0, .bool false] 67) := by
  have g1 : ¬ (r : Int) < 1 := by omega
  have g2 : ¬ (64 : Int) < (r : Int) := by omega
  go_enter Try.func20, Try.ntmps20
  go_wp2
  refine bodyPost_ret (v := .tuple #[.pointer (some ⟨w.heap.size, 0, none⟩), .int .i64 0]) (by simp [results, Try.results20, go_sem]) rfl ?_
  exact ⟨rfl, rfl⟩
theorem new_no (r : Int) (h : r < 1 ∨ 64 < r) (w : World) : Calls Try.prog 20 #[.int .i64 r] w fun e w' => e = .returned (.tuple #[.pointer none, .int .i64 2]) ∧ w' = w := by
  by_cases g1 : r < 1
  · go_enter Try.func20, Try.ntmps20
    go_wp2
    refine bodyPost_ret (v := .tuple #[.pointer none, .int .i64 2]) (by simp [results, Try.results20, go_sem]) rfl ?_
    exact ⟨rfl, rfl⟩
  · have g2 : (64 : Int) < r := by omega
    clear h
    go_enter Try.func20, Try.ntmps20
    go_wp2
    refine bodyPost_ret (v := .tuple #[.pointer none, .int .i64 2]) (by simp [results, Try.results20, go_sem]) rfl ?_
    exact ⟨rfl, rfl⟩
end
/-- A law's pipe, beside other things. -/
def PE (w : World) (b r n : Nat) (c : Bool) (l : List (List UInt8)) (ts : List Th) (wx : World) : Prop := ∃ s, Kn w (pipeT b r n c l s :: ts) wx
section
variable {w wx w' : World} {b r n : Nat} {c : Bool} {l : List (List UInt8)} {ts ts' : List Th} {x : (List UInt8)}
theorem PE.kn (h : PE w b r n c l ts wx) : Kn w ts wx := let ⟨_, h⟩ := h; h.tail
theorem PE.below (h : PE w b r n c l ts wx) : Below w.heap.size w wx := h.kn.below
theorem PE.keep (h : PE w b r n c l ts wx) (hb : Below wx.heap.size wx w') : PE w b r n c l ts w' := let ⟨s, h⟩ := h; ⟨s, h.keep hb⟩
theorem PE.sub (h : PE w b r n c l ts wx) (hs : ts'.Sublist ts) : PE w b r n c l ts' wx := let ⟨s, h⟩ := h; ⟨s, h.sub (hs.cons_cons _)⟩
theorem PE.more {t : Th} (h : PE w b r n c l ts wx) (hb : Below wx.heap.size wx w') (hp : t.P w') (hf : ∀ k, t.F k → wx.heap.size ≤ k) : PE w b r n c l (t :: ts) w' := let ⟨s, h⟩ := h; ⟨s, (h.more hb hp hf).swap⟩
/-- Its neighbour is turned. -/
theorem PE.turn {t t' : Th} (h : PE w b r n c l (t :: ts) wx) (hp : t'.P w') (ho : Only t.F wx w') (hf : ∀ k, t'.F k → t.F k ∨ wx.heap.size ≤ k) : PE w b r n c l (t' :: ts) w' := let ⟨s, h⟩ := h; ⟨s, (h.swap.turn hp ho hf).swap⟩
theorem PE.perm (h : PE w b r n c l ts wx) (hs : ts.Perm ts') : PE w b r n c l ts' wx := let ⟨s, h⟩ := h; ⟨s, h.perm (hs.cons _)⟩
theorem PE.new (h : Kn w ts wx) (r : Nat) (T : TypeId) (hb : b = wx.heap.size) : PE w b r 0 false [] ts (wx.alloc (.cells #[.slice none 0 0, .int .i64 0, .int .i64 0, .int .i64 (r : Int), .int .i64 0, .bool false] T)) :=
  ⟨_, h.more ((Below.refl _ _).alloc (Nat.le_refl _) _) (pipe_made wx r T hb) (fun k hk => by cases hk; omega)⟩
theorem PE.now {l' : List (List UInt8)} {n' : Nat} {c' : Bool} {s : Sh} (h : Kn w (pipeT b r n c l s :: ts) wx) (hn : Now wx b r n' c' l' s.has w') : PE w b r n' c' l' ts w' := let ⟨s', h1, h2, h3⟩ := hn; ⟨s', h.turn h1 h3 h2⟩
theorem lenP {m : Nat} (h : Hid (PE w b r n c l ts wx)) (hm : m = l.length) : Calls Try.prog 24 #[.pointer (some ⟨b, 0, none⟩)] wx fun e w' => e = .returned (.int .i64 (m : Int)) ∧ w' = wx := by
  subst hm
  obtain ⟨s, h⟩ := h.out
  exact plen h.hd
theorem roomP (h : Hid (PE w b r n c l ts wx)) : Calls Try.prog 25 #[.pointer (some ⟨b, 0, none⟩)] wx fun e w' => e = .returned (.int .i64 (r : Int)) ∧ w' = wx := by
  obtain ⟨s, h⟩ := h.out
  exact proom h.hd
theorem closedP (h : Hid (PE w b r n c l ts wx)) : Calls Try.prog 38 #[.pointer (some ⟨b, 0, none⟩)] wx fun e w' => e = .returned (.bool c) ∧ w' = wx := by
  obtain ⟨s, h⟩ := h.out
  exact pclosed h.hd
theorem doneP (h : Hid (PE w b r n c l ts wx)) {d : Bool} (hd : d = (c && decide (l = []))) : Calls Try.prog 26 #[.pointer (some ⟨b, 0, none⟩)] wx fun e w' => e = .returned (.bool d) ∧ w' = wx := by
  obtain ⟨s, h⟩ := h.out
  exact pdone h.hd hd
/-- Send: it is closed (or no call made it). -/
theorem sendP_not (h : Hid (PE w b r n c l ts wx)) {k : Int} (hk : k = refE r c) (h0 : k ≠ 0) (x : (List UInt8)) : Calls Try.prog 21 #[.pointer (some ⟨b, 0, none⟩), (Value.string ⟨x.toArray⟩)] wx fun e w' => e = .returned (.int .i64 k) ∧ Hid (PE w b r n c l ts w') := by
  obtain ⟨s, h⟩ := h.out
  refine (send_not h0 x (refuse_p h.hd hk)).mono ?_
  rintro e w' ⟨rfl, rfl⟩
  exact ⟨rfl, s, h⟩
theorem sendP_full (h : Hid (PE w b r n false l ts wx)) (hr : r ≠ 0) (hl : l.length = r) (x : (List UInt8)) : Calls Try.prog 21 #[.pointer (some ⟨b, 0, none⟩), (Value.string ⟨x.toArray⟩)] wx fun e w' => e = .returned (.int .i64 9) ∧ Hid (PE w b r n false l ts w') := by
  obtain ⟨s, h⟩ := h.out
  refine (send_full h.hd hr hl x).mono ?_
  rintro e w' ⟨rfl, m, rfl⟩
  exact ⟨rfl, s, h.drewN m⟩
theorem sendP (h : Hid (PE w b r n false l ts wx)) (hr : r ≠ 0) (hr2 : r ≤ 64) (hl : l.length < r) (hn : n ≤ 1000000) (x : (List UInt8)) : Calls Try.prog 21 #[.pointer (some ⟨b, 0, none⟩), (Value.string ⟨x.toArray⟩)] wx fun e w' => e = .returned (.int .i64 0) ∧ Hid (PE w b r (n + 1) false (l ++ [x]) ts w') := by
  obtain ⟨s, h⟩ := h.out
  refine (send_ok h.hd hr hr2 hl hn x).mono ?_
  rintro e w' ⟨rfl, q⟩
  exact ⟨rfl, PE.now h q⟩
theorem recvP_none (h : Hid (PE w b r n c l ts wx)) (hl : l = []) {k : Int} (hk : k = if refE r c = 0 then 10 else refE r c) : Calls Try.prog 23 #[.pointer (some ⟨b, 0, none⟩)] wx fun e w' => e = .returned (.tuple #[(Value.string ⟨#[]⟩), .int .i64 k]) ∧ Hid (PE w b r n c l ts w') := by
  subst hl
  obtain ⟨s, h⟩ := h.out
  refine (recv_none (plen h.hd) (refuse_p h.hd rfl) hk).mono ?_
  rintro e w' ⟨rfl, rfl⟩
  exact ⟨rfl, s, h⟩
theorem recvP {l' : List (List UInt8)} (h : Hid (PE w b r n c l ts wx)) (hl : l = x :: l') : Calls Try.prog 23 #[.pointer (some ⟨b, 0, none⟩)] wx fun e w' => e = .returned (.tuple #[(Value.string ⟨x.toArray⟩), .int .i64 0]) ∧ Hid (PE w b r n c l' ts w') := by
  subst hl
  obtain ⟨s, h⟩ := h.out
  refine (recv_ok h.hd).mono ?_
  rintro e w' ⟨rfl, q⟩
  exact ⟨rfl, PE.now h q⟩
theorem closeP_not (h : Hid (PE w b r n c l ts wx)) {k : Int} (hk : k = refE r c) (h0 : k ≠ 0) : Calls Try.prog 22 #[.pointer (some ⟨b, 0, none⟩)] wx fun e w' => e = .returned (.int .i64 k) ∧ Hid (PE w b r n c l ts w') := by
  obtain ⟨s, h⟩ := h.out
  refine (close_not h0 (refuse_p h.hd hk)).mono ?_
  rintro e w' ⟨rfl, rfl⟩
  exact ⟨rfl, s, h⟩
theorem closeP (h : Hid (PE w b r n false l ts wx)) (hr : r ≠ 0) : Calls Try.prog 22 #[.pointer (some ⟨b, 0, none⟩)] wx fun e w' => e = .returned (.int .i64 0) ∧ Hid (PE w b r n true l ts w') := by
  obtain ⟨s, h⟩ := h.out
  refine (close_ok h.hd hr).mono ?_
  rintro e w' ⟨rfl, q⟩
  exact ⟨rfl, PE.now h q⟩
end
end Go.Proofs.Ythajooipaiiieaa.DqS
