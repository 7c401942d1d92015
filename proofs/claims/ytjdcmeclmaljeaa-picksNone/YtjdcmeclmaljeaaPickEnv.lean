/- What a law knows of its script, beside other things; works. -/
import Derived.Test.YtjdcmeclmaljeaaPickStep
import Derived.Test.YtjdcmeclmaljeaaRowApp
namespace Go.Proofs.Ytjdcmeclmaljeaa.Pick
open Go.RowKit Go.Proofs.Ytjdcmeclmaljeaa.Dig Go.Proofs.Ytjdcmeclmaljeaa.Mem Go.Proofs.Ytjdcmeclmaljeaa.Dq Go.Proofs.Ytjdcmeclmaljeaa.Thing Go.Proofs.Ytjdcmeclmaljeaa.Sets
set_option linter.unusedVariables false
set_option linter.unusedSimpArgs false

theorem wfl_of {l : List Int} (h : l.all (fun x => (Lit.int .i64 x).wf) = true) : WfL l := fun x hx => List.all_eq_true.1 h x hx
def SE (w : World) (b : Nat) (L : List Int) (c : Int) (n : Nat) (ts : List Th) (wx : World) : Prop := ∃ pa pc, Kn w (scrT b pa pc L c n :: ts) wx
section
variable {w wx w' : World} {b n : Nat} {L : List Int} {c : Int} {ts ts' : List Th} {ra : Option Addr} {rc k : Nat} {l : List Int} {x e : Int} {n' : Nat}
theorem SE.kn (h : SE w b L c n ts wx) : Kn w ts wx := let ⟨_, _, h⟩ := h; h.tail
theorem SE.below (h : SE w b L c n ts wx) : Below w.heap.size w wx := h.kn.below
theorem SE.keep (h : SE w b L c n ts wx) (hb : Below wx.heap.size wx w') : SE w b L c n ts w' := let ⟨p, q, h⟩ := h; ⟨p, q, h.keep hb⟩
theorem SE.drewN (h : SE w b L c n ts wx) (q : Nat) : SE w b L c n ts (wx.drewN q) := h.keep (below_of_drewN q)
theorem SE.sub (h : SE w b L c n ts wx) (hs : ts'.Sublist ts) : SE w b L c n ts' wx := let ⟨p, q, h⟩ := h; ⟨p, q, h.sub (hs.cons_cons _)⟩
theorem SE.more {t : Th} (h : SE w b L c n ts wx) (hb : Below wx.heap.size wx w') (hp : t.P w') (hf : ∀ k, t.F k → wx.heap.size ≤ k) : SE w b L c n (t :: ts) w' := let ⟨p, q, h⟩ := h; ⟨p, q, (h.more hb hp hf).swap⟩
theorem SE.turn {t t' : Th} (h : SE w b L c n (t :: ts) wx) (hp : t'.P w') (ho : Only t.F wx w') (hf : ∀ k, t'.F k → t.F k ∨ wx.heap.size ≤ k) : SE w b L c n (t' :: ts) w' := let ⟨p, q, h⟩ := h; ⟨p, q, (h.swap.turn hp ho hf).swap⟩
theorem SE.perm (h : SE w b L c n ts wx) (hs : ts.Perm ts') : SE w b L c n ts' wx := let ⟨p, q, h⟩ := h; ⟨p, q, h.perm (hs.cons _)⟩
theorem newE (h : Hid (Kn w ts wx)) {a : Option Addr} {m p : Nat} (hr : RowI wx a p L) (hm : m = L.length) (hL : L.length ≤ 1000000) (c : Int) : Calls Try.prog 8 #[.slice a m p, .int .i64 c] wx fun e w' => ∃ b, e = .returned (.pointer (some ⟨b, 0, none⟩)) ∧ Hid (SE w b L c 0 ts w') := by
  refine (new_any c hr hm hL).mono ?_
  rintro e w' ⟨b, pa, pc, rfl, h1, h2, h3⟩
  exact ⟨b, rfl, pa, pc, h.out.more h3 h1 h2⟩
theorem stepE (h : Hid (SE w b L c n ts wx)) (hn : n ≤ 1000000) (hk : k = l.length) (hk2 : l.length ≤ 1000000) (hr : RowI wx ra rc l) (hs : StepIs L c n l x e n') :
    Calls Try.prog 9 #[.pointer (some ⟨b, 0, none⟩), .slice ra k rc] wx fun r w' => r = .returned (.tuple #[.int .i64 x, .int .i64 e]) ∧ Hid (SE w b L c n' ts w') := by
  obtain ⟨pa, pc, h⟩ := h.out
  refine (pstep_any h.hd hn hk hk2 hr hs).mono ?_
  rintro r w' ⟨rfl, h1, h2⟩
  exact ⟨rfl, pa, pc, h.turn (t' := scrT b pa pc L c n') h1 (h2.mono (fun k e => .inl e)) (fun k hk => .inl hk)⟩
theorem overE (h : Hid (SE w b L c n ts wx)) {d : Bool} (hd : d = over c n) : Calls Try.prog 13 #[.pointer (some ⟨b, 0, none⟩)] wx fun e w' => e = .returned (.bool d) ∧ ∃ q, w' = wx.drewN q := by
  subst hd
  obtain ⟨pa, pc, h⟩ := h.out
  exact over_any h.hd
theorem stepsE (h : Hid (SE w b L c n ts wx)) {z : Int} (hz : z = n) : Calls Try.prog 11 #[.pointer (some ⟨b, 0, none⟩)] wx fun e w' => e = .returned (.int .i64 z) ∧ w' = wx := by
  subst hz
  obtain ⟨pa, pc, h⟩ := h.out
  exact steps_any h.hd
theorem usedE (h : Hid (SE w b L c n ts wx)) {z : Int} (hz : z = (min n L.length : Nat)) : Calls Try.prog 12 #[.pointer (some ⟨b, 0, none⟩)] wx fun e w' => e = .returned (.int .i64 z) ∧ ∃ q, w' = wx.drewN q := by
  subst hz
  obtain ⟨pa, pc, h⟩ := h.out
  exact used_any h.hd
end
set_option maxHeartbeats 1000000 in
theorem works9_any (w : World) : Calls Try.prog 7 #[] w fun e w' => e = .returned (.bool true) ∧ Below w.heap.size w w' := by
  have N0 := hide (newE (w := w) (wx := w.alloc (.cells #[.int .i64 4, .int .i64 (-1)] 3)) (hide ((Kn.start w).keep ((Below.refl _ _).alloc (Nat.le_refl _) _))) (rowi_made w [4, -1] 3 (n := 2) rfl rfl (by simp) (wfl_of (by decide))) (m := 2) rfl (by simp) 3)
  go_enter Try.func7, Try.ntmps7
  go_wp2_with (first
    | (go_at_call 8; go_must ((with_reducible refine (Hid.out N0).mono ?_); rintro e w0 ⟨b, rfl, H0⟩; have HR := hide (rowi_made w0 [9, 5, 7, 5] 3 (p := w0.heap.size) (n := 4) rfl rfl (by simp) (wfl_of (by decide))); have H1 := hide (H0.out.more (w' := w0.alloc (.cells #[.int .i64 9, .int .i64 5, .int .i64 7, .int .i64 5] 3)) (t := rowT (some ⟨w0.heap.size, 0, none⟩) 4 [9, 5, 7, 5]) ((Below.refl _ _).alloc (Nat.le_refl _) _) HR.out (fun k hk => by obtain ⟨_, x, e, rfl⟩ := hk; cases e; exact Nat.le_refl _)); have S1 := hide (stepE H1 (x := 7) (e := 0) (n' := 1) (k := 4) (by decide) rfl (by decide) H1.out.kn.hd ⟨by decide⟩); clear N0 HR))
    | (go_at_call 9; ((with_reducible refine (Hid.out S1).mono ?_)); go_must (clear S1; rintro e w1 ⟨rfl, H2⟩; have S2 := hide (stepE H2 (x := 9) (e := 0) (n' := 2) (k := 4) (by decide) rfl (by decide) H2.out.kn.hd ⟨by decide⟩); clear H1))
    | (go_at_call 9; ((with_reducible refine (Hid.out S2).mono ?_)); go_must (clear S2; rintro e w2 ⟨rfl, H3⟩; have S3 := hide (stepE H3 (x := 5) (e := 0) (n' := 3) (k := 4) (by decide) rfl (by decide) H3.out.kn.hd ⟨by decide⟩); clear H2))
    | (go_at_call 9; ((with_reducible refine (Hid.out S3).mono ?_)); go_must (clear S3; rintro e w3 ⟨rfl, H4⟩; have S4 := hide (stepE H4 (x := 0) (e := 8) (n' := 3) (k := 4) (by decide) rfl (by decide) H4.out.kn.hd ⟨by decide⟩); clear H3))
    | (go_at_call 9; ((with_reducible refine (Hid.out S4).mono ?_)); go_must (clear S4; rintro e w4 ⟨rfl, H5⟩; have C1 := hide (stepsE H5 (z := 3) rfl); have C2 := hide (usedE H5 (z := 2) rfl); clear H4))
    | (go_at_call 11; go_must ((with_reducible refine (Hid.out C1).mono ?_); rintro e w5 ⟨rfl, rfl⟩))
    | (go_at_call 12; go_must ((with_reducible refine (Hid.out C2).mono ?_); rintro e w6 ⟨rfl, q6, rfl⟩; have C3 := hide (overE (hide (H5.out.drewN q6)) (d := true) rfl)))
    | (go_at_call 13; go_must ((with_reducible refine (Hid.out C3).mono ?_); rintro e w7 ⟨rfl, q7, rfl⟩)))
  go_ret
  exact ⟨rfl, (H5.out.drewN _).below⟩
end Go.Proofs.Ytjdcmeclmaljeaa.Pick
