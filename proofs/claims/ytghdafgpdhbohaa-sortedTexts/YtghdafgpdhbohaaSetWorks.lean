/- Layer 5's works: it returns true, and what was there stays. -/
import Derived.Test.YtghdafgpdhbohaaSetEnv
namespace Go.Proofs.Ytghdafgpdhbohaa.Sets
open Go.RowKit Go.Proofs.Ytghdafgpdhbohaa.Dig Go.Proofs.Ytghdafgpdhbohaa.Mem
set_option linter.unusedVariables false
set_option linter.unusedSimpArgs false

section
variable {w wx : World} {cs : List (Nat × Value)} {sets rows : List SetT}
theorem lay1 (b : Nat) (x : Int) (T : TypeId) (h : Hid (Env w cs sets rows wx)) (hb : b = wx.heap.size) (hx : (Lit.int .i64 x).wf = true) : Hid (Env w cs sets ((some ⟨b, 0, none⟩, 1, [x]) :: rows) (wx.alloc (.cells #[.int .i64 x] T))) :=
  h.out.lay [x] T hb rfl (by omega) (by simpa using hx)
theorem lay2 (b : Nat) (x y : Int) (T : TypeId) (h : Hid (Env w cs sets rows wx)) (hb : b = wx.heap.size) (hx : (Lit.int .i64 x).wf = true) (hy : (Lit.int .i64 y).wf = true) : Hid (Env w cs sets ((some ⟨b, 0, none⟩, 2, [x, y]) :: rows) (wx.alloc (.cells #[.int .i64 x, .int .i64 y] T))) :=
  h.out.lay [x, y] T hb rfl (by omega) (by simp [hx, hy])
theorem box1 (b : Nat) (v : Value) (T : TypeId) (h : Hid (Env w cs sets rows wx)) (hb : b = wx.heap.size) : Hid (Env w ((b, v) :: cs) sets rows (wx.alloc (.cells #[v] T))) := h.out.box v T hb
end
theorem neq_nilFunc (k B : Nat) (W : World) : (binOp .neq 37 (.func (.func k) #[] #[.pointer (some ⟨B, 0, none⟩)]) .nilFunc).run Try.prog W = .ok (.bool true) W := by kernel_rfl
theorem eql_nilFunc (k B : Nat) (W : World) : (binOp .eql 37 (.func (.func k) #[] #[.pointer (some ⟨B, 0, none⟩)]) .nilFunc).run Try.prog W = .ok (.bool false) W := by kernel_rfl
set_option maxHeartbeats 2000000 in
set_option maxRecDepth 20000 in
theorem works5_any (w : World) : Calls Try.prog 8 #[] w fun e w' => e = .returned (.bool true) ∧ Below w.heap.size w w' := by
  have H0 : Hid (Env w [] [] [(some ⟨w.heap.size, 0, none⟩, 3, [3, 1, 3])] (w.alloc (.cells #[.int .i64 3, .int .i64 1, .int .i64 3] 3))) := (Env.start w).lay [3, 1, 3] 3 rfl rfl (by omega) (by decide)
  have hneq := neq_nilFunc 49
  go_enter Try.func8, Try.ntmps8
  go_wp2_with (first
    | (go_at_call 9; go_must ((refine (ofD (a := some ⟨w.heap.size, 0, none⟩) (c := 3) (n := 3) (l := [3, 1, 3]) (s := [1, 3]) H0 (by simp) rfl (hide (by decide))).mono ?_); rintro e w1 ⟨a1, c1, m1, rfl, hm1, -, H1⟩; obtain rfl : m1 = 2 := hm1.out; have H2 := box1 w1.heap.size (.slice a1 2 c1) 25 H1 rfl; have H3 := lay1 (w1.heap.size + 1) 2 3 H2 (by simp) (by decide); have k1 := H2.out.cell (b := w1.heap.size) (v := .slice a1 2 c1) (by simp); clear hm1))
    | (go_at_call 13; go_must ((refine (withD (a2 := a1) (c2 := c1) (a := some ⟨w1.heap.size + 1, 0, none⟩) (c := 1) (n := 1) (n2 := 2) (s := [1, 3]) (l := [2]) (u := [1, 2, 3]) H3 (by simp) (by simp) rfl rfl (hide (by decide)) (hide (by decide))).mono ?_); rintro e w2 ⟨a2, c2, m2, rfl, hm2, -, H4⟩; obtain rfl : m2 = 3 := hm2.out; have H5 := box1 w2.heap.size (.slice a2 3 c2) 25 H4 rfl; have k2 := H5.out.cell (b := w1.heap.size) (v := .slice a1 2 c1) (by simp); have k3 := H5.out.cell (b := w2.heap.size) (v := .slice a2 3 c2) (by simp); have L1 := hide (listD (a := a1) (c := c1) (n := 2) (s := [1, 3]) H5 (by simp) rfl); clear hm2 k1))
    | (go_at_call 15; (with_reducible refine (Hid.out L1).mono ?_); go_must (clear L1; rintro e w3 ⟨a3, c3, rfl, H6⟩; have H7 := lay2 w3.heap.size 1 3 3 H6 rfl (by decide) (by decide); have k2 := H7.out.cell (b := w1.heap.size) (v := .slice a1 2 c1) (by simp); have k3 := H7.out.cell (b := w2.heap.size) (v := .slice a2 3 c2) (by simp); have S1 := hide (sameD (a := a3) (c := c3) (n := 2) (l := [1, 3]) (k := [1, 3]) (a2 := some ⟨w3.heap.size, 0, none⟩) (c2 := 2) (n2 := 2) H7 (by simp) (by simp) rfl rfl rfl)))
    | (go_at_call 14; (with_reducible refine (Hid.out S1).mono ?_); go_must (clear S1; rintro e w4 ⟨rfl, H8⟩; have k2 := H8.out.cell (b := w1.heap.size) (v := .slice a1 2 c1) (by simp); have k3 := H8.out.cell (b := w2.heap.size) (v := .slice a2 3 c2) (by simp)))
    | (go_at_call 18; go_must ((refine (lenD (a := a1) (c := c1) (n := 2) (s := [1, 3]) H8 (by simp) rfl).mono ?_); rintro e w5 ⟨rfl, H9⟩; have k2 := H9.out.cell (b := w1.heap.size) (v := .slice a1 2 c1) (by simp); have k3 := H9.out.cell (b := w2.heap.size) (v := .slice a2 3 c2) (by simp); have A1 := hide (hasD (a := a1) (c := c1) (n := 2) (s := [1, 3]) (x := 3) (r := true) H9 (by simp) rfl (hide (by decide)))))
    | (go_at_call 19; (with_reducible refine (Hid.out A1).mono ?_); go_must (clear A1; rintro e w6 ⟨rfl, H10⟩; have k2 := H10.out.cell (b := w1.heap.size) (v := .slice a1 2 c1) (by simp); have k3 := H10.out.cell (b := w2.heap.size) (v := .slice a2 3 c2) (by simp); have A2 := hide (hasD (a := a1) (c := c1) (n := 2) (s := [1, 3]) (x := 2) (r := false) H10 (by simp) rfl (hide (by decide)))))
    | (go_at_call 19; (with_reducible refine (Hid.out A2).mono ?_); go_must (clear A2; rintro e w7 ⟨rfl, H11⟩; have k2 := H11.out.cell (b := w1.heap.size) (v := .slice a1 2 c1) (by simp); have k3 := H11.out.cell (b := w2.heap.size) (v := .slice a2 3 c2) (by simp)))
    | (go_at_call 12; go_must ((refine (minusD (a := a2) (c := c2) (a2 := a1) (c2 := c1) (n := 3) (n2 := 2) (s := [1, 2, 3]) (t := [1, 3]) (u := [2]) H11 (by simp) (by simp) rfl rfl (hide (by decide))).mono ?_); rintro e w8 ⟨a8, c8, m8, rfl, hm8, -, H12⟩; obtain rfl : m8 = 1 := hm8.out; have L2 := hide (listD (a := a8) (c := c8) (n := 1) (s := [2]) H12 (by simp) rfl); clear hm8))
    | (go_at_call 15; (with_reducible refine (Hid.out L2).mono ?_); go_must (clear L2; rintro e w9 ⟨a9, c9, rfl, H13⟩; have H14 := lay1 w9.heap.size 2 3 H13 rfl (by decide); have S2 := hide (sameD (a := a9) (c := c9) (n := 1) (l := [2]) (k := [2]) (a2 := some ⟨w9.heap.size, 0, none⟩) (c2 := 1) (n2 := 1) H14 (by simp) (by simp) rfl rfl rfl)))
    | (go_at_call 14; (with_reducible refine (Hid.out S2).mono ?_); go_must (clear S2; rintro e wa ⟨rfl, H15⟩; have H16 := lay2 (wa.heap.size + 1) 1 2 3 (lay1 wa.heap.size 9 3 H15 rfl (by decide)) (by simp) (by decide) (by decide); have k2 := H16.out.cell (b := w1.heap.size) (v := .slice a1 2 c1) (by simp)))
    | (go_at_call 28; go_must ((refine (cmpD (a := some ⟨wa.heap.size, 0, none⟩) (c := 1) (a2 := some ⟨wa.heap.size + 1, 0, none⟩) (c2 := 2) (n := 1) (n2 := 2) (l := [9]) (k := [1, 2]) (r := -1) H16 (by simp) (by simp) rfl rfl (hide (by decide))).mono ?_); rintro e wb ⟨rfl, hwb⟩; replace hwb := hwb.symm; subst hwb))
    | (go_at_call 22; go_must ((refine (allD (a := a1) (c := c1) (n := 2) (s := [1, 3]) H16 (by simp) rfl).mono ?_); rintro e wc ⟨B, rfl, H17⟩)))
  go_ret
  exact ⟨rfl, H17.out.below⟩
end Go.Proofs.Ytghdafgpdhbohaa.Sets
