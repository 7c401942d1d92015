/- The document's Send, Recv and Close, over a struct of the room, all that was sent, how many were received, and whether it is closed. -/
import Derived.Test.YthajooipaiiieaaRowApp
namespace Go.Proofs.Ythajooipaiiieaa.PipeRef
open Go.RowKit Go.Proofs.Ythajooipaiiieaa.Dig Go.Proofs.Ythajooipaiiieaa.Mem Go.Proofs.Ythajooipaiiieaa.Dq
set_option linter.unusedVariables false
set_option linter.unusedSimpArgs false

/-- A struct of the document's. -/
abbrev pv (R : Int) (a : Option Addr) (n c : Nat) (k : Int) (d : Bool) : Array Value := #[.int .i64 R, .slice a n c, .int .i64 k, .bool d]
theorem bel2 {w : World} (o o' : Obj) : Below w.heap.size w ((w.alloc o).alloc o') := ((Below.refl _ _).alloc (Nat.le_refl _) _).alloc (by simp) _
theorem _root_.Go.Proofs.Ythajooipaiiieaa.Dq.RowI.put {w : World} {a : Option Addr} {c : Nat} {l : List Int} (h : RowI w a c l) {p : Addr} (hp : ∀ x, a = some x → x.block ≠ p.block) (v : Value) : RowI (w.setCell p v) a c l := ⟨h.cap, h.rd.put hp v, h.nil⟩
section
variable (w : World) (R : Int) (a : Option Addr) (n c : Nat)
theorem rnew_any (r : Int) (w : World) : Calls Try.prog 7 #[.int .i64 r] w fun e w' => e = .returned (.int .i64 (if r < 1 ∨ 64 < r then 2 else 0)) ∧ w' = w := by
  by_cases g1 : r < 1
  · rw [if_pos (.inl g1)]
    go_enter Try.func7, Try.ntmps7
    go_wp2
    go_ret
    exact ⟨rfl, rfl⟩
  · by_cases g2 : 64 < r
    · rw [if_pos (.inr g2)]
      go_enter Try.func7, Try.ntmps7
      go_wp2
      go_ret
      exact ⟨rfl, rfl⟩
    · rw [if_neg (by omega)]
      go_enter Try.func7, Try.ntmps7
      go_wp2
      go_ret
      exact ⟨rfl, rfl⟩
theorem rclose_not (k : Int) : Calls Try.prog 12 #[.agg (pv R a n c k true)] w fun e w' => e = .returned (.tuple #[.agg (pv R a n c k true), .int .i64 11]) ∧ Below w.heap.size w w' := by
  unfold pv
  go_enter Try.func12, Try.ntmps12
  go_wp2
  refine bodyPost_ret (v := .tuple #[.agg #[.int .i64 R, .slice a n c, .int .i64 k, .bool true], .int .i64 11]) (by simp [results, Try.results12, go_sem]) rfl ?_
  exact ⟨rfl, bel2 _ _⟩
theorem rclose_ok (k : Int) : Calls Try.prog 12 #[.agg (pv R a n c k false)] w fun e w' => e = .returned (.tuple #[.agg (pv R a n c k true), .int .i64 0]) ∧ Below w.heap.size w w' := by
  unfold pv
  go_enter Try.func12, Try.ntmps12
  go_wp2
  refine bodyPost_ret (v := .tuple #[.agg #[.int .i64 R, .slice a n c, .int .i64 k, .bool true], .int .i64 0]) (by simp [results, Try.results12, go_sem]) rfl ?_
  exact ⟨rfl, bel2 _ _⟩
theorem rrecv_some (k : Nat) (d : Bool) {m : List Int} {x : Int} (h : RowI w a c m) (hn : n = m.length) (hk : k < n) (hm : n ≤ 1000000) (hx : m.getD k 0 = x) : Calls Try.prog 10 #[.agg (pv R a n c (k : Int) d)] w fun e w' => e = .returned (.tuple #[.agg (pv R a n c ((k : Int) + 1) d), .int .i64 x, .int .i64 0]) ∧ Below w.heap.size w w' := by
  unfold pv
  obtain ⟨b, off, rfl, hc⟩ := h.at (i := k) (by omega)
  rw [hx] at hc
  have hlt := lt_of_cell hc
  have g0 : (k : Int) < n := by omega
  clear h hn hx
  go_enter Try.func10, Try.ntmps10
  go_wp2
  refine bodyPost_ret (v := .tuple #[.agg #[.int .i64 R, .slice (some ⟨b, off, none⟩) n c, .int .i64 ((k : Int) + 1), .bool d], .int .i64 x, .int .i64 0]) (by simp [results, Try.results10, go_sem]) rfl ?_
  exact ⟨rfl, bel2 _ _⟩
theorem rrecv_none (k : Nat) (d : Bool) (hk : k = n) : Calls Try.prog 10 #[.agg (pv R a n c (k : Int) d)] w fun e w' => e = .returned (.tuple #[.agg (pv R a n c (k : Int) d), .int .i64 0, .int .i64 (if d then 11 else 10)]) ∧ Below w.heap.size w w' := by
  unfold pv
  subst hk
  have g0 : ¬ (k : Int) < k := by omega
  cases d with
  | true =>
    go_enter Try.func10, Try.ntmps10
    go_wp2
    refine bodyPost_ret (v := .tuple #[.agg #[.int .i64 R, .slice a k c, .int .i64 (k : Int), .bool true], .int .i64 0, .int .i64 11]) (by simp [results, Try.results10, go_sem]) rfl ?_
    exact ⟨rfl, bel2 _ _⟩
  | false =>
    go_enter Try.func10, Try.ntmps10
    go_wp2
    refine bodyPost_ret (v := .tuple #[.agg #[.int .i64 R, .slice a k c, .int .i64 (k : Int), .bool false], .int .i64 0, .int .i64 10]) (by simp [results, Try.results10, go_sem]) rfl ?_
    exact ⟨rfl, bel2 _ _⟩
theorem rsend_closed (k x : Int) : Calls Try.prog 14 #[.agg (pv R a n c k true), .int .i64 x] w fun e w' => e = .returned (.tuple #[.agg (pv R a n c k true), .int .i64 11]) ∧ Below w.heap.size w w' := by
  unfold pv
  go_enter Try.func14, Try.ntmps14
  go_wp2
  refine bodyPost_ret (v := .tuple #[.agg #[.int .i64 R, .slice a n c, .int .i64 k, .bool true], .int .i64 11]) (by simp [results, Try.results14, go_sem]) rfl ?_
  exact ⟨rfl, bel2 _ _⟩
theorem rsend_full (k : Nat) (x : Int) (hk : k ≤ n) (hn : n ≤ 1000000) (hR : R ≤ (n : Int) - (k : Int)) : Calls Try.prog 14 #[.agg (pv R a n c (k : Int) false), .int .i64 x] w fun e w' => e = .returned (.tuple #[.agg (pv R a n c (k : Int) false), .int .i64 9]) ∧ Below w.heap.size w w' := by
  unfold pv
  go_enter Try.func14, Try.ntmps14
  go_wp2
  refine bodyPost_ret (v := .tuple #[.agg #[.int .i64 R, .slice a n c, .int .i64 (k : Int), .bool false], .int .i64 9]) (by simp [results, Try.results14, go_sem]) rfl ?_
  exact ⟨rfl, bel2 _ _⟩
set_option maxHeartbeats 1000000 in
theorem rsend_ok (k : Nat) (x : Int) {m : List Int} (h : RowI w a c m) (hm : n = m.length) (hx : (Lit.int .i64 x).wf = true) (hk : k ≤ n) (hn : n ≤ 100000) (hR : (n : Int) - (k : Int) < R) : Calls Try.prog 14 #[.agg (pv R a n c (k : Int) false), .int .i64 x] w fun e w' => (∃ a' c', e = .returned (.tuple #[.agg (pv R a' (n + 1) c' (k : Int) false), .int .i64 0]) ∧ RowI w' a' c' (m ++ [x]) ∧ Fresh w.heap.size a') ∧ Below w.heap.size w w' := by
  unfold pv
  have gR : ¬ R ≤ (n : Int) - (k : Int) := by omega
  obtain ⟨W, hW⟩ : ∃ W, W = (w.alloc (.cells #[.int .i64 R, .slice a n c, .int .i64 (k : Int), .bool false] 31)).alloc (.cells #[.int .i64 0, .slice none 0 0, .int .i64 0, .bool false] 31) := ⟨_, rfl⟩
  have hsz : W.heap.size = w.heap.size + 1 + 1 := by rw [hW]; simp
  have hBW : Below w.heap.size w W := by rw [hW]; exact bel2 _ _
  have HP : Hid (Is W w.heap.size #[.int .i64 R, .slice a n c, .int .i64 (k : Int), .bool false]) := hide (by rw [hW]; exact (Is.made w _ _ rfl).alloc _)
  have HQ : Hid (Is W (w.heap.size + 1) #[.int .i64 0, .slice none 0 0, .int .i64 0, .bool false]) := hide (by rw [hW]; exact Is.made _ _ _ (by simp))
  have HO1 : Hid (OwnI W.heap.size (W.alloc (.cells #[] 3)) (.slice (some ⟨w.heap.size + 1 + 1, 0, none⟩) 0 0) []) := OwnI.empty hsz.symm (Nat.le_refl _)
  have HB1 : Hid (Below W.heap.size W (W.alloc (.cells #[] 3))) := (Below.refl _ _).alloc (Nat.le_refl _) _
  have HR : Hid (RowI (W.alloc (.cells #[] 3)) a c m) := hide ((h.keep hBW).keep ((Below.refl _ _).alloc (Nat.le_refl _) _))
  have HWF : Hid (WfL (m ++ [x])) := hide (fun y hy => by
    rcases List.mem_append.1 hy with q | q
    · exact h.wf y q
    · obtain rfl := List.mem_singleton.1 q
      exact hx)
  have HX : Hid (WfL [x]) := hide (fun y hy => by obtain rfl := List.mem_singleton.1 hy; exact hx)
  have HM := hide hm
  have HBW := hide hBW
  have HW := hide hW
  have HS := hide hsz
  clear hR h hm hx hBW hsz hW
  go_enter Try.func14, Try.ntmps14
  go_wp2_with (first
    | (at_builtin; (rw [← HW.out]; refine app_rowi (w0 := W) rfl (.tmp 19) (.tmp 21) rfl W.heap.size (.slice (some ⟨w.heap.size + 1 + 1, 0, none⟩) 0 0) [] rfl HO1.out a c n m rfl HM.out HR.out (by rw [← HM.out]; simp; omega) (by simp) HB1.out ?_); intro v1 w1 hown1 hb1 hs1; have HO2 := hide (owns_below (w' := w1.alloc (.cells #[.int .i64 x] 3)) hown1 ((Below.refl _ _).alloc (Nat.le_refl _) _)); have HB2 := hide (hb1.alloc hb1.size (.cells #[.int .i64 x] 3)); have hz1 := hb1.size; clear hown1 hb1 hs1)
    | (at_builtin; (refine app_rowi (w0 := W) rfl (.tmp 22) (.tmp 24) rfl W.heap.size v1 ([] ++ m) rfl HO2.out (some ⟨w1.heap.size, 0, none⟩) 1 1 [x] rfl rfl (rowi_made w1 [x] 3 rfl rfl (by simp) HX.out) (by rw [List.nil_append, ← HM.out]; simp; omega) (by simp; omega) HB2.out ?_); intro v2 w2 hown2 hb2 hs2; obtain ⟨a2, c2, e2, hr2, hf2⟩ := OwnI.row (l := [] ++ m ++ [x]) hown2 (by simp; have := HM.out; omega) (by rw [List.nil_append]; exact HWF.out); replace e2 : v2 = .slice a2 (n + 1) c2 := (by rw [e2, HM.out]; simp); subst e2; have HP2 := hide (HP.out.below hb2); have HQ2 := hide (HQ.out.below hb2); have HR2 := hide hr2; have HF2 := hide hf2; have HB3 := hide hb2; obtain ⟨⟨p0, p1, p2, p3⟩, f0, f1, f2, f3⟩ := HP2.out.four; obtain ⟨⟨q0, q1, q2, q3⟩, g0, g1, g2, g3⟩ := HQ2.out.four; clear hown2 hb2 hs2 hr2 hf2 HO2 HB2))
  refine bodyPost_ret (v := .tuple #[.agg #[.int .i64 R, .slice a2 (n + 1) c2, .int .i64 (k : Int), .bool false], .int .i64 0]) (by simp [results, Try.results14, go_sem, p0, p1, p2, p3, q0, q1, q2, q3]) rfl ?_
  have hs := HS.out
  have n0 : ∀ y, a2 = some y → y.block ≠ w.heap.size := fun y e q => by have := HF2.out y e; omega
  have n1 : ∀ y, a2 = some y → y.block ≠ w.heap.size + 1 := fun y e q => by have := HF2.out y e; omega
  have hr := HR2.out
  rw [List.nil_append] at hr
  refine ⟨⟨a2, c2, rfl, (((((hr.put (p := ⟨_, _, none⟩) n0 _).put (p := ⟨_, _, none⟩) n1 _).put (p := ⟨_, _, none⟩) n1 _).put (p := ⟨_, _, none⟩) n1 _).put (p := ⟨_, _, none⟩) n1 _), fun y e => by have := HF2.out y e; omega⟩, ?_⟩
  have hb : Below w.heap.size w w2 := HBW.out.trans (HB3.out.mono HBW.out.size)
  exact ((((hb.setCell (p := ⟨_, _, none⟩) (Nat.le_refl _) _).setCell (p := ⟨_, _, none⟩) (by simp) _).setCell (p := ⟨_, _, none⟩) (by simp) _).setCell (p := ⟨_, _, none⟩) (by simp) _).setCell (p := ⟨_, _, none⟩) (by simp) _
end
end Go.Proofs.Ythajooipaiiieaa.PipeRef
