/- Pipes of numbers in layer 8's laws: Counts, works, none. -/
import Derived.Test.YthajooipaiiieaaDqPipe
import Derived.Deep.DeepMust
namespace Go.Proofs.Ythajooipaiiieaa.DqI
open Go.RowKit Go.Proofs.Ythajooipaiiieaa.Dig Go.Proofs.Ythajooipaiiieaa.Mem Go.Proofs.Ythajooipaiiieaa.Dq Go.Proofs.Ythajooipaiiieaa.Thing
set_option linter.unusedVariables false
set_option linter.unusedSimpArgs false

section
variable {w wx w' : World} {b r n : Nat} {c : Bool} {l : List Int} {ts ts' : List Th} {x : Int} {s : Sh}
theorem counts_p (h : (pipeT b r n c l s).P w) {m : Nat} (hm : m = l.length) (hn : n ≤ 1000000) : Calls Try.prog 15 #[.pointer (some ⟨b, 0, none⟩)] w fun e w' => e = .returned (.tuple #[.int .i64 (n : Int), .int .i64 ((n : Int) - (m : Int))]) ∧ ∃ q, w' = w.drewN q := by
  have hl := Sh.le h.1
  rw [← hm] at hl
  have HL : Hid (∀ q, Calls Try.prog 16 #[.pointer (some ⟨b, 0, none⟩)] (w.drewN q) fun e w' => e = .returned (.int .i64 (m : Int)) ∧ w' = w.drewN q) := hide (fun q => by
    have := plen (pipe_drewN h q)
    rw [← hm] at this
    exact this)
  obtain ⟨⟨h3, h4, h5⟩, _⟩ := pipe_cells h
  clear h h3 h5 hm
  go_enter Try.func15, Try.ntmps15
  go_wp2
  go_quiet ((go_at_call 16; exact Calls.quiet_of_same (HL.out _)))
  go_wp2
  refine bodyPost_ret (v := .tuple #[.int .i64 (n : Int), .int .i64 ((n : Int) - (m : Int))]) (by simp [results, Try.results15, go_sem]) rfl ?_
  exact ⟨rfl, _, rfl⟩
theorem counts_nil (w : World) : Calls Try.prog 15 #[.pointer none] w fun e w' => e = .returned (.tuple #[.int .i64 0, .int .i64 0]) ∧ w' = w := by
  go_enter Try.func15, Try.ntmps15
  go_wp2
  refine bodyPost_ret (v := .tuple #[.int .i64 0, .int .i64 0]) (by simp [results, Try.results15, go_sem]) rfl ?_
  exact ⟨rfl, rfl⟩
theorem countsP (h : Hid (PE w b r n c l ts wx)) {m : Nat} (hm : m = l.length) (hn : n ≤ 1000000) {d : Int} (hd : d = (n : Int) - (m : Int)) : Calls Try.prog 15 #[.pointer (some ⟨b, 0, none⟩)] wx fun e w' => e = .returned (.tuple #[.int .i64 (n : Int), .int .i64 d]) ∧ Hid (PE w b r n c l ts w') := by
  subst hd
  obtain ⟨s, h⟩ := h.out
  refine (counts_p h.hd hm hn).mono ?_
  rintro e w' ⟨rfl, q, rfl⟩
  exact ⟨rfl, s, h.drewN q⟩
theorem newP (h : Hid (Kn w ts wx)) (r : Nat) (h1 : 1 ≤ r) (h2 : r ≤ 64) {z : Int} (hz : z = (r : Int)) : Calls Try.prog 6 #[.int .i64 z] wx fun e w' => e = .returned (.tuple #[.pointer (some ⟨wx.heap.size, 0, none⟩), .int .i64 0]) ∧ Hid (PE w wx.heap.size r 0 false [] ts w') := by
  subst hz
  refine (new_ok r h1 h2 wx).mono ?_
  rintro e w' ⟨rfl, rfl⟩
  exact ⟨rfl, PE.new h.out r _ rfl⟩
end
set_option maxHeartbeats 1000000 in
theorem works8_any (w : World) : Calls Try.prog 8 #[] w fun e w' => e = .returned (.bool true) ∧ Below w.heap.size w w' := by
  have N0 := hide (newP (Kn.start w) 1 (by decide) (by decide) (z := 1) rfl)
  go_enter Try.func8, Try.ntmps8
  go_wp2_with (first
    | (go_at_call 6; go_must ((with_reducible refine (Hid.out N0).mono ?_); rintro e w0 ⟨rfl, H0⟩; have P1 := hide (sendP H0 (by decide) (by decide) (by decide) (by decide) 5)))
    | (go_at_call 13; ((with_reducible refine (Hid.out P1).mono ?_)); go_must (clear P1; rintro e w1 ⟨rfl, H1⟩; have P2 := hide (sendP_full H1 (by decide) rfl 6)))
    | (go_at_call 13; ((with_reducible refine (Hid.out P2).mono ?_)); go_must (clear P2; rintro e w2 ⟨rfl, H2⟩; have C1 := hide (closeP H2 (by decide))))
    | (go_at_call 11; go_must ((with_reducible refine (Hid.out C1).mono ?_); rintro e w3 ⟨rfl, H3⟩; have P3 := hide (sendP_not H3 (k := 11) rfl (by decide) 7)))
    | (go_at_call 13; ((with_reducible refine (Hid.out P3).mono ?_)); go_must (clear P3; rintro e w4 ⟨rfl, H4⟩; have R1 := hide (recvP H4 (x := 5) (l' := []) rfl)))
    | (go_at_call 9; ((with_reducible refine (Hid.out R1).mono ?_)); go_must (clear R1; rintro e w5 ⟨rfl, H5⟩; have R2 := hide (recvP_none H5 rfl (k := 11) rfl)))
    | (go_at_call 9; ((with_reducible refine (Hid.out R2).mono ?_)); go_must (clear R2; rintro e w6 ⟨rfl, H6⟩; have D := hide (doneP H6 (d := true) rfl)))
    | (go_at_call 19; go_must ((with_reducible refine (Hid.out D).mono ?_); rintro e w7 ⟨rfl, rfl⟩)))
  go_ret
  exact ⟨rfl, H6.out.below⟩
set_option maxHeartbeats 1000000 in
theorem none_nil (x : Int) (w : World) : Calls Try.prog 27 #[.pointer none, .int .i64 x] w fun e w' => e = .returned (.bool true) ∧ w' = w := by
  go_enter Try.func27, Try.ntmps27
  go_wp2_with (first
    | (go_at_call 13; go_must ((refine (send_not (k := 1) (by decide) x (refuse_nil _)).mono ?_); rintro e w1 ⟨rfl, rfl⟩))
    | (go_at_call 11; go_must ((refine (close_not (k := 1) (by decide) (refuse_nil _)).mono ?_); rintro e w1 ⟨rfl, rfl⟩))
    | (go_at_call 9; go_must ((refine (recv_none (k := 1) (k' := 1) (plen_nil _) (refuse_nil _) rfl).mono ?_); rintro e w1 ⟨rfl, rfl⟩))
    | (go_at_call 15; go_must ((refine (counts_nil _).mono ?_); rintro e w1 ⟨rfl, rfl⟩))
    | (go_at_call 16; go_must ((refine (plen_nil _).mono ?_); rintro e w1 ⟨rfl, rfl⟩))
    | (go_at_call 17; go_must ((refine (proom_nil _).mono ?_); rintro e w1 ⟨rfl, rfl⟩))
    | (go_at_call 18; go_must ((refine (pclosed_nil _).mono ?_); rintro e w1 ⟨rfl, rfl⟩))
    | (go_at_call 19; go_must ((refine (pdone_nil _).mono ?_); rintro e w1 ⟨rfl, rfl⟩)))
  go_ret
  exact ⟨rfl, rfl⟩
set_option maxHeartbeats 1000000 in
theorem none_un {w wx : World} {b : Nat} {ts : List Th} (x : Int) (h : Hid (PE w b 0 0 false [] ts wx)) : Calls Try.prog 27 #[.pointer (some ⟨b, 0, none⟩), .int .i64 x] wx fun e w' => e = .returned (.bool true) ∧ Hid (PE w b 0 0 false [] ts w') := by
  have P := hide (sendP_not h (k := 1) rfl (by decide) x)
  go_enter Try.func27, Try.ntmps27
  go_wp2_with (first
    | (go_at_call 13; go_must ((with_reducible refine (Hid.out P).mono ?_); rintro e w1 ⟨rfl, H1⟩; have C := hide (closeP_not H1 (k := 1) rfl (by decide))))
    | (go_at_call 11; go_must ((with_reducible refine (Hid.out C).mono ?_); rintro e w2 ⟨rfl, H2⟩; have R := hide (recvP_none H2 rfl (k := 1) rfl)))
    | (go_at_call 9; go_must ((with_reducible refine (Hid.out R).mono ?_); rintro e w3 ⟨rfl, H3⟩; have K := hide (countsP H3 (m := 0) rfl (by decide) (d := 0) rfl)))
    | (go_at_call 15; go_must ((with_reducible refine (Hid.out K).mono ?_); rintro e w4 ⟨rfl, H4⟩; have L := hide (lenP H4 (m := 0) rfl); have M := hide (roomP H4); have O := hide (closedP H4); have D := hide (doneP H4 (d := false) rfl)))
    | (go_at_call 16; go_must ((with_reducible refine (Hid.out L).mono ?_); rintro e w5 ⟨rfl, rfl⟩))
    | (go_at_call 17; go_must ((with_reducible refine (Hid.out M).mono ?_); rintro e w5 ⟨rfl, rfl⟩))
    | (go_at_call 18; go_must ((with_reducible refine (Hid.out O).mono ?_); rintro e w5 ⟨rfl, rfl⟩))
    | (go_at_call 19; go_must ((with_reducible refine (Hid.out D).mono ?_); rintro e w5 ⟨rfl, rfl⟩)))
  go_ret
  exact ⟨rfl, H4⟩
end Go.Proofs.Ythajooipaiiieaa.DqI
