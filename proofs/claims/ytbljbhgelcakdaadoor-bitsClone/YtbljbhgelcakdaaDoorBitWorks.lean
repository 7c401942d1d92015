/- Layer 6's works: it returns true, and what was there stays. -/
import Derived.Test.YtbljbhgelcakdaaDoorBitCalls
import Derived.Deep.DeepMust
namespace Go.Proofs.YtbljbhgelcakdaaDoor.Bit
open Go.RowKit Go.Proofs.YtbljbhgelcakdaaDoor.Dig Go.Proofs.YtbljbhgelcakdaaDoor.Mem
set_option linter.unusedVariables false
set_option linter.unusedSimpArgs false

@[go_sem] theorem eqGuard_nilFunc (t : TypeId) (x y : Operand) (v : Value) : eqGuard .neq t x y v .nilFunc = pure () := by
  cases v <;> rfl
@[go_sem] theorem eqGuard_nilFunc' (t : TypeId) (x y : Operand) (v : Value) : eqGuard .eql t x y v .nilFunc = pure () := by
  cases v <;> rfl
section
variable {At : World → Value → (Nat → Prop) → List Bool → Prop}
def wm1 : List Bool := setB (newB 70 false) [3, 70, 9, 69] true
def wm2 : List Bool := setB wm1 [69] false
theorem wm2_list : listB wm2 = [3, 9] := by decide +kernel
theorem wm2_next4 : nextB wm2 4 = 9 := by decide +kernel
theorem wm2_next10 : nextB wm2 10 = -1 := by decide +kernel
theorem wc_count : (listB (newB 4 true)).length = 4 := by decide +kernel
set_option maxHeartbeats 2000000 in
set_option maxRecDepth 20000 in
theorem works6_any (A : Api At) (w : World) (HT : Tab w) : Calls Tryd.prog 7 #[] w fun e w' => e = .returned (.bool true) ∧ Below w.heap.size w w' := by
  have H0 : Hid (Env At w [] [] [] [] w) := Env.start w HT
  go_enter Tryd.func7, Tryd.ntmps7
  go_wp2_with (first
    | (go_at_call 8; go_must ((refine (newE A 70 H0 (by decide) rfl).mono ?_); rintro e w1 ⟨p1, rfl, H1⟩; have H2 := hide (H1.out.lay A [3, 70, 9, 69] 3 (b := w1.heap.size) (n := 4) rfl rfl (by decide) (by decide))))
    | (go_at_call 21; go_must ((refine (putE A 0 (m := newB 70 false) (m3 := wm1) (l := [3, 70, 9, 69]) (n := 4) (a := some ⟨w1.heap.size, 0, none⟩) (c := 4) H2 rfl (by simp) rfl (by decide) rfl).mono ?_); rintro e w2 ⟨rfl, H3⟩))
    | (go_at_call 9; go_must ((refine (fullE A 4 (m := newB 4 true) H3 (by decide) rfl).mono ?_); rintro e w3 ⟨p2, rfl, H4⟩; have H5 := hide (H4.out.lay A [69] 3 (b := w3.heap.size) (n := 1) rfl rfl (by decide) (by decide))))
    | (go_at_call 24; go_must ((refine (dropE A 0 (m := wm1) (m3 := wm2) (l := [69]) (n := 1) (a := some ⟨w3.heap.size, 0, none⟩) (c := 1) H5 rfl (by simp) rfl (by decide) rfl).mono ?_); rintro e w4 ⟨rfl, H6⟩))
    | (go_at_call 14; go_must ((refine (listE A 0 (m := wm2) (l := [3, 9]) (n := 2) H6 rfl wm2_list rfl).mono ?_); rintro e w5 ⟨a5, c5, rfl, H7⟩; have H8 := hide (H7.out.lay A [3, 9] 3 (b := w5.heap.size) (n := 2) rfl rfl (by decide) (by decide))))
    | (go_at_call 13; go_must ((refine (sameE A (a := a5) (c := c5) (l := [3, 9]) (a2 := some ⟨w5.heap.size, 0, none⟩) (c2 := 2) (l2 := [3, 9]) (n := 2) (n2 := 2) (r := true) H8 (by simp) (by simp) rfl rfl (by decide)).mono ?_); rintro e w6 ⟨rfl, H9⟩; have C1 := hide (countE A 0 (p := p1) (m := wm2) (n := 2) H9 rfl (by rw [wm2_list]; rfl))))
    | (go_at_call 16; ((with_reducible refine (Hid.out C1).mono ?_)); go_must (clear C1; rintro e w7 ⟨rfl, H10⟩; have N1 := hide (nextE A 0 4 (p := p1) (m := wm2) (r := 9) H10 rfl (by decide) wm2_next4)))
    | (go_at_call 19; ((with_reducible refine (Hid.out N1).mono ?_)); go_must (clear N1; rintro e w8 ⟨rfl, H11⟩; have N2 := hide (nextE A 0 10 (p := p1) (m := wm2) (r := -1) H11 rfl (by decide) wm2_next10)))
    | (go_at_call 19; ((with_reducible refine (Hid.out N2).mono ?_)); go_must (clear N2; rintro e w9 ⟨rfl, H12⟩; have C2 := hide (countE A 1 (p := p2) (m := newB 4 true) (n := 4) H12 rfl wc_count)))
    | (go_at_call 16; ((with_reducible refine (Hid.out C2).mono ?_)); go_must (clear C2; rintro e wa ⟨rfl, H13⟩))
    | (go_at_call 23; go_must ((refine (allE A 0 (p := p1) (m := wm2) H13 rfl).mono ?_); rintro e wb ⟨v, rfl, hneq, H14⟩))
    | (go_at_call 25; go_must ((refine (cloneE A 0 (p := p1) (m := wm2) H14 rfl).mono ?_); rintro e wc ⟨p3, rfl, H15⟩))
    | (go_at_call 26; go_must ((refine (psameE A 2 0 (p := p3) (q := p1) (m := wm2) (m2 := wm2) (r := true) H15 rfl rfl (by simp)).mono ?_); rintro e wd ⟨rfl, H16⟩)))
  go_ret
  exact ⟨rfl, H16.out.below⟩
end
end Go.Proofs.YtbljbhgelcakdaaDoor.Bit
