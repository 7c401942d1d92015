/- Layer 7's works: it returns true, and what was there stays. -/
import Derived.Test.YtfoggnfemcnolaaDqEnv
import Derived.Test.YtfoggnfemcnolaaDqAll
import Derived.Deep.DeepMust
namespace Go.Proofs.Ytfoggnfemcnolaa.DqI
open Go.RowKit Go.Proofs.Ytfoggnfemcnolaa.Dig Go.Proofs.Ytfoggnfemcnolaa.Mem Go.Proofs.Ytfoggnfemcnolaa.Dq
set_option linter.unusedVariables false
set_option linter.unusedSimpArgs false

@[go_sem] theorem eqGuard_nilFunc (t : TypeId) (x y : Operand) (v : Value) : eqGuard .neq t x y v .nilFunc = pure () := by
  cases v <;> rfl
@[go_sem] theorem eqGuard_nilFunc' (t : TypeId) (x y : Operand) (v : Value) : eqGuard .eql t x y v .nilFunc = pure () := by
  cases v <;> rfl
theorem neq_nilFunc (k B : Nat) (W : World) : (binOp .neq 48 (.func (.func k) #[] #[.pointer (some ⟨B, 0, none⟩)]) .nilFunc).run Try.prog W = .ok (.bool true) W := by kernel_rfl
theorem eql_nilFunc (k B : Nat) (W : World) : (binOp .eql 48 (.func (.func k) #[] #[.pointer (some ⟨B, 0, none⟩)]) .nilFunc).run Try.prog W = .ok (.bool false) W := by kernel_rfl
section
variable {w wx w' : World} {b : Nat} {l l' : List Int} {rows rows' : List (Option Addr × Nat × List Int)} {cs cs' : List (Nat × Array Value)}
/-- A row of numbers is laid. -/
theorem rowi_made (wx : World) (zs : List Int) (T : TypeId) {p n : Nat} (hp : p = wx.heap.size) (hn : n = zs.length) (hl : zs.length ≤ 100) (hw : WfL zs) : RowI (wx.alloc (.cells (zs.map (Value.int .i64)).toArray T)) (some ⟨p, 0, none⟩) n zs :=
  ⟨by omega, ⟨by omega, fun i hi => ⟨p, 0, rfl, (Is.made wx _ T hp).cell _ (by simp [List.getD_eq_getElem?_getD, List.getElem?_eq_getElem hi]), by
    show (Lit.int .i64 (zs.getD i 0)).wf = true
    rw [List.getD_eq_getElem?_getD, List.getElem?_eq_getElem hi]
    exact hw _ (List.getElem_mem hi)⟩⟩, fun e => by cases e⟩
theorem wf_two : WfL [2] := fun x hx => by obtain rfl := List.mem_singleton.1 hx; decide
theorem Env.lay (h : Env w b l rows cs wx) (zs : List Int) (T : TypeId) {p n : Nat} (hp : p = wx.heap.size) (hn : n = zs.length) (hl : zs.length ≤ 100) (hw : WfL zs) : Env w b l ((some ⟨p, 0, none⟩, n, zs) :: rows) cs (wx.alloc (.cells (zs.map (Value.int .i64)).toArray T)) :=
  h.more ((Below.refl _ _).alloc (Nat.le_refl _) _) (rowi_made wx zs T hp hn hl hw) (fun x e => by cases e; exact Nat.le_of_eq hp.symm)
theorem listE {n : Nat} (h : Hid (Env w b l rows cs wx)) (hw : WfL l) (hn : n = l.length) :
    Calls Try.prog 15 #[.pointer (some ⟨b, 0, none⟩)] wx fun e w' => ∃ a c, e = .returned (.slice a n c) ∧ Hid (Env w b l ((a, c, l) :: rows) cs w') := by
  subst hn
  obtain ⟨s, h1⟩ := h.out
  have := list_i h1.deq hw
  rw [h1.ptr] at this
  refine this.mono ?_
  rintro e w' ⟨⟨a, c, rfl, hr, hf⟩, hb⟩
  exact ⟨a, c, rfl, h.out.more hb hr hf⟩
theorem sameE {a a2 : Option Addr} {c c2 n n2 : Nat} {m m2 : List Int} {r : Bool} (h : Hid (Env w b l rows cs wx)) (h1 : (a, c, m) ∈ rows) (h2 : (a2, c2, m2) ∈ rows) (hn : n = m.length) (hn2 : n2 = m2.length) (hr : decide (m = m2) = r) :
    Calls Try.prog 14 #[.slice a n c, .slice a2 n2 c2] wx fun e w' => e = .returned (.bool r) ∧ Hid (Env w b l rows cs w') := by
  subst hn hn2 hr
  refine (same_is a a2 c c2 m m2 wx (h.out.row h1) (h.out.row h2)).mono ?_
  rintro e w' ⟨rfl, hb⟩
  exact ⟨rfl, h.out.keep hb⟩
theorem allE (h : Hid (Env w b l rows cs wx)) (hw : WfL l) :
    Calls Try.prog 20 #[.pointer (some ⟨b, 0, none⟩)] wx fun e w' => ∃ B a c, e = .returned (.func (.func 33) #[] #[.pointer (some ⟨B, 0, none⟩)]) ∧ wx.heap.size ≤ B ∧ w'.cell? ⟨B, 0, none⟩ = some (.slice a l.length c) ∧ Hid (Env w b l ((a, c, l) :: rows) cs w') := by
  obtain ⟨s, h1⟩ := h.out
  have := all_sh h1.deq hw
  rw [h1.ptr] at this
  refine this.mono ?_
  rintro e w' ⟨⟨B, a, c, hB, rfl, hc, hr, hf⟩, hb⟩
  exact ⟨B, a, c, rfl, hB, hc, h.out.more hb hr hf⟩
end
set_option maxHeartbeats 2000000 in
set_option maxRecDepth 20000 in
theorem works7_any (w : World) : Calls Try.prog 7 #[] w fun e w' => e = .returned (.bool true) ∧ Below w.heap.size w w' := by
  have H0 : Hid (Env w w.heap.size [] [] [] (w.alloc (.cells #[.slice none 0 0, .int .i64 0, .int .i64 0] 27))) := Env.new w 27 rfl w (Below.refl _ _) rfl
  have P1 := hide (pushE 1 H0 (by simp))
  have hneq := neq_nilFunc 33
  go_enter Try.func7, Try.ntmps7
  go_wp2_with (first
    | (go_at_call 12; ((with_reducible refine (Hid.out P1).mono ?_)); go_must (clear P1; rintro e w1 ⟨rfl, H1⟩; have P2 := hide (pushE 2 H1 (by simp))))
    | (go_at_call 12; ((with_reducible refine (Hid.out P2).mono ?_)); go_must (clear P2; rintro e w2 ⟨rfl, H2⟩; have P3 := hide (pushE 3 H2 (by simp))))
    | (go_at_call 12; ((with_reducible refine (Hid.out P3).mono ?_)); go_must (clear P3; rintro e w3 ⟨rfl, H3⟩))
    | (go_at_call 10; go_must ((refine (stealE (x := 1) (l' := [2, 3]) H3 rfl).mono ?_); rintro e w4 ⟨rfl, H4⟩))
    | (go_at_call 8; go_must ((refine (popE (x := 3) (l' := [2]) H4 rfl).mono ?_); rintro e w5 ⟨rfl, H5⟩))
    | (go_at_call 13; go_must ((refine (lenE (n := 1) H5 rfl).mono ?_); rintro e w6 ⟨rfl, H6⟩))
    | (go_at_call 15; go_must ((refine (listE (n := 1) H6 wf_two rfl).mono ?_); rintro e w7 ⟨a7, c7, rfl, H7⟩; have H8 := hide (H7.out.lay [2] 3 (p := w7.heap.size) (n := 1) rfl rfl (by decide) wf_two)))
    | (go_at_call 14; go_must ((refine (sameE (a := a7) (c := c7) (m := [2]) (a2 := some ⟨w7.heap.size, 0, none⟩) (c2 := 1) (m2 := [2]) (n := 1) (n2 := 1) (r := true) H8 (by simp) (by simp) rfl rfl (by decide)).mono ?_); rintro e w9 ⟨rfl, H9⟩))
    | (go_at_call 20; go_must ((refine (allE H9 wf_two).mono ?_); rintro e wa ⟨B, a9, c9, rfl, _, _, Ha⟩)))
  go_ret
  exact ⟨rfl, Ha.out.below⟩
end Go.Proofs.Ytfoggnfemcnolaa.DqI
