/- All of a deque, as a list. -/
import Derived.Test.YtfoggnfemcnolaaDqPop
import Derived.Test.YtfoggnfemcnolaaDqRow
import Derived.Test.YtfoggnfemcnolaaSetBox
import Derived.Maps.AppendAt
namespace Go.Proofs.Ytfoggnfemcnolaa.DqI
open Go.RowKit Go.Proofs.Ytfoggnfemcnolaa.Dig Go.Proofs.Ytfoggnfemcnolaa.Mem Go.Proofs.Ytfoggnfemcnolaa.Dq Go.Proofs.Ytfoggnfemcnolaa.Bit Go.Proofs.Ytfoggnfemcnolaa.Sets Go.Shelf
set_option linter.unusedVariables false
set_option linter.unusedSimpArgs false
attribute [local go_sem] Oper.semAt_some

def encL (x : Int) : Value := (Value.int .i64 x)
/-- What the loop keeps: the deque, and the row so far. -/
def ListR (w : World) (s : Sh) (l : List Int) (pre : List Int) (W : World) : Prop :=
  s.At W l ∧ ∃ v, LI 3 25 encL w [(w.heap.size + 1 + 1, 24, s.ptr)] (w.heap.size + 1) v (l.take pre.length) W
set_option maxRecDepth 100000 in
set_option maxHeartbeats 2000000 in
theorem list_sh {w : World} {s : Sh} {l : List Int} (h : s.At w l) :
    Calls Try.prog 15 #[s.ptr] w fun e w' => (∃ v, e = .returned v ∧ w'.ownsRow w.heap.size 3 1 v l.length (l.map encL)) ∧ Below w.heap.size w w' := by
  obtain ⟨q, hq⟩ := s.shape
  have HQ := hide hq
  have HS := hide h
  obtain ⟨m, hm⟩ : ∃ m, m = l.length := ⟨_, rfl⟩
  have HM := hide hm
  have HL := hide (len_sh h)
  have hle := Sh.le h
  rw [← hm] at hle HL
  have hmk : ∀ w : World, (Instr.makeSlice 25 (.int .i64 0) (.int .i64 (m : Int))).run Try.prog w = .ok (.slice (some ⟨w.heap.size, 0, none⟩) 0 m) (w.alloc (.cells (cellsOf (List.replicate m (0 : Int))) 3)) := mk_els 0 m (Nat.zero_le _) hle
  rw [hq] at HL ⊢
  obtain ⟨i0, hi, hz0, hz1, hz2⟩ := info_parts Try.infoEl
  clear h hm hq
  refine (callsIn_wide (n := 3)).1 ?_
  refine callsIn_of_wp_marks Try.func15 rfl trivial ?_ rfl
  simp only [Try.ntmps15, List.size_toArray, List.length_cons, List.length_nil, Nat.reduceAdd, Nat.reduceSub, Array.replicate_succ, Array.replicate_zero, List.push_toArray, List.append_toArray, List.nil_append, List.cons_append]
  gi_wp2_with (first
    | (refine ⟨trivial, ?_⟩; gi_at_call 13; go_must ((with_reducible refine (callsIn_wide.2 (Hid.out HL)).mono ?_); rintro e w9 ⟨rfl, e9⟩; replace e9 := e9.symm; subst e9))
    | (refine ⟨trivial, ?_⟩; gi_at_call 25; go_must ((with_reducible refine (callsIn_wide.2 (each_any _ _)).mono ?_); rintro e w9 ⟨rfl, rfl⟩)))
  obtain ⟨W0, hW0⟩ : ∃ W0, W0 = ((w.alloc (.cells (cellsOf (List.replicate m (0 : Int))) 3)).alloc (.cells #[.slice (some ⟨w.heap.size, 0, none⟩) 0 m] 25)).alloc (.cells #[.pointer q] 24) := ⟨_, rfl⟩
  have hsz : W0.heap.size = w.heap.size + 3 := by rw [hW0]; simp
  have hb1 : Below w.heap.size w (w.alloc (.cells (cellsOf (List.replicate m (0 : Int))) 3)) := (Below.refl _ _).alloc (Nat.le_refl _) _
  have hb2 : Below w.heap.size w ((w.alloc (.cells (cellsOf (List.replicate m (0 : Int))) 3)).alloc (.cells #[.slice (some ⟨w.heap.size, 0, none⟩) 0 m] 25)) := hb1.alloc (by simp) _
  have hb3 : Below w.heap.size w W0 := by rw [hW0]; exact hb2.alloc (by simp; omega) _
  have L0 : LI 3 25 encL w [(w.heap.size + 1 + 1, 24, s.ptr)] (w.heap.size + 1) (.slice (some ⟨w.heap.size, 0, none⟩) 0 m) [] W0 := by
    refine ⟨fun p hp => ?_, ?_, ?_, by decide, by omega, hb3⟩
    · obtain rfl := List.mem_singleton.1 hp
      refine ⟨?_, show (24 : Nat) ≠ 3 by decide, by simp⟩
      rw [hW0, HQ.out]
      have := Boxed.new ((w.alloc (.cells (cellsOf (List.replicate m (0 : Int))) 3)).alloc (.cells #[.slice (some ⟨w.heap.size, 0, none⟩) 0 m] 25)) 24 (.pointer q)
      simpa using this
    · rw [hW0]
      have := Boxed.new (w.alloc (.cells (cellsOf (List.replicate m (0 : Int))) 3)) 25 (.slice (some ⟨w.heap.size, 0, none⟩) 0 m)
      exact boxed_below (by simpa using this) ((Below.refl _ _).alloc (by simp) _)
    · rw [hW0]
      have := World.ownsRow_made (base := w.heap.size) (e := 3) (size := 1) w (cellsOf (List.replicate m (0 : Int))) m (Nat.le_refl _) (by unfold maxLen; omega) (by simp [cellsOf])
      exact Sets.owns_below (Sets.owns_below this ((Below.refl _ _).alloc (by simp) _)) ((Below.refl _ _).alloc (by simp) _)
  have S0 : s.At W0 l := Sh.below HS.out hb3
  rw [← hW0]
  clear hW0 hmk hb1 hb2
  have hst := eachc_led (w.heap.size + 1 + 1) s l (ListR w s l) HS.out (fun pre W ⟨h1, v, hL⟩ => ⟨(hL.boxes (w.heap.size + 1 + 1, 24, s.ptr) (by simp)).1.cell, h1⟩)
  refine range_led (n := 3) rfl (by omega) rfl trivial (enters_of Try.func31 (by kernel_rfl) rfl) _ (fun _ _ _ => False) hst (fun _ => rfl) ?hI (fun _ _ _ _ _ hs _ _ => hs.elim) ⟨S0, _, L0⟩
    (fun x => { tmps := #[.pointer q, undef, .slice none 0 0, .pointer (some ⟨w.heap.size + 1, 0, none⟩), undef, (Value.int .i64 (l.getD x.toNat (0 : Int))), .pointer q, .int .i64 (m : Int), .slice (some ⟨w.heap.size, 0, none⟩) 0 m, .pointer q, .func (.func 31) #[] #[.pointer (some ⟨w.heap.size + 1 + 1, 0, none⟩)], .int .i64 x, (Value.int .i64 (l.getD x.toNat (0 : Int))), undef, undef, undef, undef, undef], defers := [] }) ?assign ?body ?done ?stop
  case hI =>
    rintro pre A V row ⟨hk, v, hL⟩ hg hr
    exact ⟨Sh.off hk hg (fun r e => (hr r e).2), v, hL.turn (by omega) hg hr⟩
  case assign =>
    intro f x W K hK
    simp only [encE]
    gi_wp2
    exact hK
  case body =>
    rintro f pre x W ⟨hk, v, hL⟩ ⟨k, rfl, hlt, rfl⟩
    rw [upTo_length] at hL
    simp only [Int.toNat_natCast]
    have hc := hL.box.cell
    have hrow := hL.own
    have hkl : (l.take k).length = k := by rw [List.length_take]; omega
    rw [hkl] at hrow
    have HT : Hid (l.take (upTo k ++ [(k : Int)]).length = l.take k ++ [l.getD k (0 : Int)]) := hide (by
      rw [List.length_append, upTo_length]
      show l.take (k + 1) = _
      rw [List.take_add_one, List.getElem?_eq_getElem hlt, List.getD_eq_getElem?_getD, List.getElem?_eq_getElem hlt]
      rfl)
    have hkm : k < m := by rw [HM.out]; exact hlt
    have hsz2 := hL.below.size
    have HL := hide hL
    have HK := hide hk
    have HKL := hide hkl
    have hd : 1 ≤ 3 - 1 - 1 := by omega
    obtain ⟨y, hy⟩ : ∃ y, y = l.getD k (0 : Int) := ⟨_, rfl⟩
    rw [← hy] at HT ⊢
    clear hk hL hkl hlt hy
    gi_wp2_with (gi_at_builtin; refine wpListIn_append_own _ rfl _ _ 25 rfl w.heap.size 3 i0 (Value.int .i64 0) 1 8 Try.underlying25 hi hz0 hz1 hz2 rfl (by decide) _ _ _ rfl (hrow.alloc _) ⟨W.heap.size, 0, none⟩ 1 1 [(Value.int .i64 y)] rfl rfl (cell_one_new _ _ _) (by simp [Value.oneCell']) (by unfold maxLen; omega) (by omega) (by simp; omega) ?_; intro v' w3 hown' hgrow _; obtain ⟨g', cap', rfl⟩ := ownsRow_succ hown'; obtain ⟨hv1, hL3, hk3, hb3⟩ := HL.out.push (l' := l.take k ++ [y]) hown' (by rw [List.length_append, HKL.out]; rfl) (by rw [List.map_append]; rfl) hgrow; have hc1 := hv1.cell; have hf1 := hv1.frozen; have HL3 := hide hL3; have HK3 := hide hk3; have HB3 := hide hb3; clear hL3 hk3 hb3 hown' hgrow hv1)
    refine ⟨HK3.out.from _, Sh.keep HK.out (Only.of_below' HB3.out) (fun j hj e => by have := Sh.lt HS.out j hj; omega), .slice (some ⟨g', 0, none⟩) (k + 1) cap', ?_⟩
    rw [HT.out]
    exact HL3.out
  case done =>
    rintro D xs W hD rfl ⟨hz, v, hL⟩ hK
    rw [upTo_length, List.take_length] at hL
    have hc := hL.box.cell
    have HL := hide hL
    have HZ := hide hz
    have hsz2 := hL.below.size
    clear hL hz
    gi_wp2
    refine ⟨by simp, .inl ⟨_, _, rfl, run_takeDeferred hK, ?_⟩⟩
    have hbk := belowK_b (w := w) (Nat.le_refl _) W D (.deferred (some [])) (.deferred none) (by omega) hK rfl rfl
    refine ⟨_, results_tmp rfl _ _ _, ⟨v, rfl, owns_turn HL.out.own (grownBy_putObj' W D (.deferred none)) (fun r e => by cases e; exact ⟨_, hK, rfl⟩)⟩, HL.out.below.trans hbk⟩
  case stop =>
    rintro D cc pre W hD _ h _
    exact h.elim
end Go.Proofs.Ytfoggnfemcnolaa.DqI
