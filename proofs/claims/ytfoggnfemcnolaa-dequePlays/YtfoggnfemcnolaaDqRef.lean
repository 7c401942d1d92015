/- The document's Pop and Steal. -/
import Derived.Test.YtfoggnfemcnolaaDqRow
import Derived.Deep.RegionLaw
import Derived.Deep.DeepMust
import Derived.Maps.AppendAt
namespace Go.Proofs.Ytfoggnfemcnolaa.Dq
open Go.RowKit Go.Proofs.Ytfoggnfemcnolaa.Dig Go.Proofs.Ytfoggnfemcnolaa.Mem
set_option linter.unusedVariables false
set_option linter.unusedSimpArgs false

theorem OwnI.empty {base b : Nat} {w : World} (hb : b = w.heap.size) (hB : base ≤ w.heap.size) : OwnI base (w.alloc (.cells #[] 3)) (.slice (some ⟨b, 0, none⟩) 0 0) [] := by
  subst hb
  exact World.ownsRow_made (e := 3) (size := 1) w #[] 0 hB (by unfold maxLen; omega) rfl
theorem OwnI.keep {base : Nat} {w w' : World} {v : Value} {l : List Int} (h : OwnI base w v l) (hb : Below w.heap.size w w') : OwnI base w' v l := owns_below h hb
/-- append of a row that is read, at a step of a region that draws. -/
theorem step_app_rowi {w w0 : World} {ops : Array Oper} {o : Oper} {a : Act} {K : Act → World → Prop} {Q : Exit → Act → World → Prop} {E : Prop} (hgd : o.guard = none) (s x : Operand)
    (ho : o.op = .call { callee := .builtin .append, args := #[s, x], argTypes := #[25, 25] }) (base : Nat) (v : Value) (l : List Int) (hs : a.eval s = v) (hown : OwnI base w v l)
    (ao : Option Addr) (c m : Nat) (r : List Int) (hx : a.eval x = .slice ao m c) (hm : m = r.length) (hr : RowI w ao c r) (hb : l.length + r.length ≤ 1000000) (hbase : base ≤ w.heap.size) (hbel : Below base w0 w)
    (h : ∀ v' w', OwnI base w' v' (l ++ r) → Below base w0 w' → w.heap.size ≤ w'.heap.size → K (a.put o.dst v') w') :
    if Region.wanted o (yielded ops a.tmps) = true then Oper.wp Try.prog o a w K Q else E := by
  have hw : Region.wanted o (yielded ops a.tmps) = true := by simp [Region.wanted, hgd]
  rw [if_pos hw]
  obtain ⟨i0, hi, hz0, hz1, hz2⟩ := info_parts Try.infoInt
  subst hm
  cases ao with
  | none =>
    have hr0 : r = [] := by
      cases r with
      | nil => rfl
      | cons y r => obtain ⟨b, off, e', _⟩ := hr.at (i := 0) (by simp); cases e'
    subst hr0
    have hc : c = 0 := hr.nil rfl
    subst hc
    have hrun := run_append_owned_none (P := Try.prog) (w := w) base 25 o.type 3 i0 1 Try.underlying25 hi v l.length _ hown
    simp only [List.length_nil] at hx
    unfold Oper.wp
    simp [execOp, ho, resolve, invoke, builtin, hs, hx, hrun, Result.andThen]
    exact h v w (by simpa using hown) hbel (Nat.le_refl _)
  | some ad =>
    refine wp_append_own w s x 25 ho base 3 i0 (.int .i64 0) 1 8 Try.underlying25 hi hz0 hz1 hz2 rfl (by decide) v l.length (l.map (Value.int .i64)) hs hown ad r.length c (r.map (Value.int .i64)) hx (by simp) ?_ ?_ (by unfold maxLen; omega) (by omega) hbase ?_
    · intro j u hu
      rw [List.getElem?_map] at hu
      have hj : j < r.length := by
        rcases Nat.lt_or_ge j r.length with q | q
        · exact q
        · rw [List.getElem?_eq_none q] at hu; simp at hu
      obtain ⟨b, off, hab, hc⟩ := hr.at hj
      obtain rfl := Option.some.inj hab
      rw [Addr.add_lit, hc, ← hu]
      simp [List.getD_eq_getElem?_getD, List.getElem?_eq_getElem hj]
    · intro u hu
      obtain ⟨n, _, rfl⟩ := List.mem_map.1 hu
      rfl
    · intro v' w' hown' hgrow _
      refine h v' w' ?_ (hbel.grown hgrow hbase (fun k hk => (World.ownsRow.lt hown k hk).1)) hgrow.size
      unfold OwnI
      rw [List.length_append, List.map_append]
      exact hown'
theorem rpop_nil (a : Option Addr) (c : Nat) (w : World) : Calls Try.prog 9 #[.slice a 0 c] w fun e w' => e = .returned (.tuple #[.slice a 0 c, .int .i64 0, .bool false]) ∧ w' = w := by
  go_enter Try.func9, Try.ntmps9
  go_wp2
  exact bodyPost_ret (v := .tuple #[.slice a 0 c, .int .i64 0, .bool false]) (by simp [results, Try.results9, go_sem]) rfl ⟨rfl, rfl⟩
theorem rsteal_nil (a : Option Addr) (c : Nat) (w : World) : Calls Try.prog 11 #[.slice a 0 c] w fun e w' => e = .returned (.tuple #[.slice a 0 c, .int .i64 0, .bool false]) ∧ w' = w := by
  go_enter Try.func11, Try.ntmps11
  go_wp2
  exact bodyPost_ret (v := .tuple #[.slice a 0 c, .int .i64 0, .bool false]) (by simp [results, Try.results11, go_sem]) rfl ⟨rfl, rfl⟩
set_option maxHeartbeats 1000000 in
theorem rpop_last {a : Option Addr} {c n : Nat} {l : List Int} {x : Int} {w : World} (h : RowI w a c (l ++ [x])) (hn : n = l.length) (hl : n ≤ 100000) :
    Calls Try.prog 9 #[.slice a (n + 1) c] w fun e w' => (∃ a' c', e = .returned (.tuple #[.slice a' n c', .int .i64 x, .bool true]) ∧ RowI w' a' c' l ∧ Fresh w.heap.size a') ∧ Below w.heap.size w w' := by
  obtain ⟨b, off, rfl, hc⟩ := h.at (i := n) (by rw [List.length_append, hn]; simp)
  have hx : (l ++ [x]).getD n 0 = x := by rw [hn, List.getD_eq_getElem?_getD, List.getElem?_append_right (Nat.le_refl _), Nat.sub_self]; rfl
  rw [hx] at hc
  have hcap : n ≤ c := by have := h.cap; rw [List.length_append] at this; simp at this; omega
  have HT : Hid (RowI w (some ⟨b, off, none⟩) c l) := by
    have := rowi_take h n
    rw [hn, List.take_left' rfl] at this
    exact this
  have HN := hide hn
  have HO1 : Hid (OwnI w.heap.size (w.drew.alloc (.cells #[] 3)) (.slice (some ⟨w.heap.size, 0, none⟩) 0 0) []) := OwnI.empty rfl (Nat.le_refl _)
  have HB1 : Hid (Below w.heap.size w (w.drew.alloc (.cells #[] 3))) := ((Below.refl _ _).drew).alloc (Nat.le_refl _) _
  have HWF : Hid (∀ y ∈ l, (Lit.int .i64 y).wf = true) := fun y hy => h.wf y (by simp [hy])
  have hlt := lt_of_cell hc
  have hni : (n : Int) < (n : Int) + 1 := by omega
  clear h hx hn
  go_enter Try.func9, Try.ntmps9
  go_wp2
  go_region_law ((refine step_app_rowi (w0 := w) (by rfl) _ _ (by rfl) w.heap.size (.slice (some ⟨w.heap.size, 0, none⟩) 0 0) [] (by rfl) HO1.out (some ⟨b, off, none⟩) c n l (by rfl) HN.out (HT.out.keep HB1.out) (by rw [← HN.out]; simp; omega) (by simp) HB1.out ?_); intro v' w1 hown hb hs; have HR := hide (OwnI.row hown (by rw [List.nil_append, ← HN.out]; omega) HWF.out); have HB := hide hb; have hc1 := (hb.cell (p := ⟨b, off + n, none⟩) hlt).trans hc; clear hown hb hs)
  all_goals
    go_wp2
    refine bodyPost_ret (v := .tuple #[v', .int .i64 x, .bool true]) (by simp [results, Try.results9, go_sem]) rfl ?_
    obtain ⟨a', c', rfl, h1, h2⟩ := HR.out
    exact ⟨⟨a', c', by rw [HN.out]; rfl, h1, h2⟩, HB.out⟩
set_option maxHeartbeats 1000000 in
theorem rsteal_first {a : Option Addr} {c n : Nat} {l : List Int} {x : Int} {w : World} (h : RowI w a c (x :: l)) (hn : n = l.length) (hl : n ≤ 100000) :
    Calls Try.prog 11 #[.slice a (n + 1) c] w fun e w' => (∃ a' c', e = .returned (.tuple #[.slice a' n c', .int .i64 x, .bool true]) ∧ RowI w' a' c' l ∧ Fresh w.heap.size a') ∧ Below w.heap.size w w' := by
  obtain ⟨b, off, rfl, hc⟩ := h.at (i := 0) (by simp)
  have hc0 : w.cell? ⟨b, off, none⟩ = some (.int .i64 x) := hc
  obtain ⟨a2, c2, hsl, hrow⟩ := slice_from h 1 (by simp)
  have HT := hide (hrow w h)
  have HN : Hid (n = ((x :: l).drop 1).length) := hn
  have hsl' : ∀ W : World, (Instr.slice 25 (.slice (some ⟨b, off, none⟩) (n + 1) c) (some (.int .i64 1)) none none).run Try.prog W = .ok (.slice a2 n c2) W := by rw [HN.out]; exact hsl
  have HO1 : Hid (OwnI w.heap.size (w.drew.alloc (.cells #[] 3)) (.slice (some ⟨w.heap.size, 0, none⟩) 0 0) []) := OwnI.empty rfl (Nat.le_refl _)
  have HB1 : Hid (Below w.heap.size w (w.drew.alloc (.cells #[] 3))) := ((Below.refl _ _).drew).alloc (Nat.le_refl _) _
  have HWF : Hid (∀ y ∈ l, (Lit.int .i64 y).wf = true) := fun y hy => h.wf y (by simp [hy])
  have hlt := lt_of_cell hc
  have hni : ¬ (n : Int) + 1 = 0 := by omega
  have hn0 : (0 : Int) < (n : Int) + 1 := by omega
  clear h hn hc hsl hrow
  go_enter Try.func11, Try.ntmps11
  go_wp2
  go_region_law ((refine step_app_rowi (w0 := w) (by rfl) _ _ (by rfl) w.heap.size (.slice (some ⟨w.heap.size, 0, none⟩) 0 0) [] (by rfl) HO1.out a2 c2 n l (by rfl) HN.out (HT.out.keep HB1.out) (by have := HN.out; simp at this; simp; omega) (by simp) HB1.out ?_); intro v' w1 hown hb hs; have HR := hide (OwnI.row hown (by have := HN.out; simp at this; simp; omega) HWF.out); have HB := hide hb; have hc1 := (hb.cell (p := ⟨b, off, none⟩) hlt).trans hc0; clear hown hb hs)
  all_goals
    go_wp2
    refine bodyPost_ret (v := .tuple #[v', .int .i64 x, .bool true]) (by simp [results, Try.results11, go_sem]) rfl ?_
    obtain ⟨a', c', rfl, h1, h2⟩ := HR.out
    exact ⟨⟨a', c', by rw [HN.out]; rfl, h1, h2⟩, HB.out⟩
end Go.Proofs.Ytfoggnfemcnolaa.Dq
