/- A deque's ring gets another room. -/
import Derived.Test.YthajooipaiiieaaDqEach
import Derived.Laws.MakeOwn
namespace Go.Proofs.Ythajooipaiiieaa.DqI
open Go.RowKit Go.Proofs.Ythajooipaiiieaa.Dig Go.Proofs.Ythajooipaiiieaa.Mem Go.Proofs.Ythajooipaiiieaa.Dq Go.Proofs.Ythajooipaiiieaa.Bit Go.Shelf
set_option linter.unusedVariables false
set_option linter.unusedSimpArgs false
attribute [local go_sem] Oper.semAt_some

theorem Try.infoEl : (Try.prog.info? 3).map (fun i => (i.zero, i.size, i.bytes)) = some (some (Value.int .i64 0), 1, 8) := by kernel_rfl
theorem madeCells_el (n : Nat) : madeCells ((Value.int .i64 0)).cells n = cellsOf (List.replicate n (0 : Int)) := by
  rw [show ((Value.int .i64 0)).cells = #[(Value.int .i64 0)] from rfl]
  apply Array.ext
  · simp [madeCells, cellsOf]
  · intro i h1 h2
    simp [madeCells, cellsOf, Nat.mod_one]
theorem mk_els (n c : Nat) (hn : n ≤ c) (hc : c ≤ 1000000) : ∀ w : World, (Instr.makeSlice 29 (.int .i64 (n : Int)) (.int .i64 (c : Int))).run Try.prog w = .ok (.slice (some ⟨w.heap.size, 0, none⟩) n c) (w.alloc (.cells (cellsOf (List.replicate c (0 : Int))) 3)) := by
  intro w
  obtain ⟨i0, hi, hz0, hz1, hz2⟩ := info_parts Try.infoEl
  have hr := run_makeSlice (P := Try.prog) w 29 3 i0 (Value.int .i64 0) Try.underlying29 hi hz0 .i64 .i64 (n : Int) (c : Int) (by omega) (by omega) (by rw [hz1]; simp; omega) (by rw [hz2]; omega) (by omega)
  simp only [Int.toNat_natCast] at hr
  rw [hz1, Nat.mul_one, madeCells_el] at hr
  exact hr
/-- What the loop keeps: the deque, the boxes of the pointer and of the new ring's slice, and the new ring, filled so far. -/
def SizeR (w : World) (s : Sh) (l : List Int) (m : Nat) (pre : List Int) (W : World) : Prop :=
  s.At W l ∧ Fo (fun _ => False) w [(w.heap.size, cellsOf (laid (0 : Int) m l pre.length)), (w.heap.size + 1, #[.slice (some ⟨w.heap.size, 0, none⟩) m m]), (w.heap.size + 1 + 1, #[s.ptr])] W
set_option maxRecDepth 100000 in
set_option maxHeartbeats 2000000 in
theorem resize_sh {w : World} {s : Sh} {l : List Int} (h : s.At w l) {b o : Nat} {cs : Array Value} (hpl : s.place = some (b, o, cs)) (m : Nat) (hl : l.length ≤ m) (h0 : 0 < m) (hm : m ≤ 1000000) :
    Calls Try.prog 42 #[.pointer (some ⟨b, o, none⟩), .int .i64 (m : Int)] w fun e w' => e = .returned (.tuple #[]) ∧ Dq w' b o cs w.heap.size m 0 (laid (0 : Int) m l l.length) l ∧ Only (fun k => k = b) w w' := by
  have hmk := mk_els m m (Nat.le_refl _) hm
  have HS := hide h
  have HP := hide (Sh.ptr_of hpl)
  have HPL := hide hpl
  refine (callsIn_wide (n := 3)).1 ?_
  refine callsIn_of_wp_marks Try.func42 rfl trivial ?_ rfl
  simp only [Try.ntmps42, List.size_toArray, List.length_cons, List.length_nil, Nat.reduceAdd, Nat.reduceSub, Array.replicate_succ, Array.replicate_zero, List.push_toArray, List.append_toArray, List.nil_append, List.cons_append]
  clear h hpl
  gi_wp2_with (refine ⟨trivial, ?_⟩; gi_at_call 47; go_must ((with_reducible refine (callsIn_wide.2 (each_any _ _)).mono ?_); rintro e w9 ⟨rfl, rfl⟩))
  obtain ⟨W0, hW0⟩ : ∃ W0, W0 = ((w.alloc (.cells (cellsOf (List.replicate m (0 : Int))) 3)).alloc (.cells #[.slice (some ⟨w.heap.size, 0, none⟩) m m] 29)).alloc (.cells #[.pointer (some ⟨b, o, none⟩)] 71) := ⟨_, rfl⟩
  have hsz : W0.heap.size = w.heap.size + 3 := by rw [hW0]; simp
  have F0 : Fo (fun _ => False) w [(w.heap.size, cellsOf (laid (0 : Int) m l ([] : List Int).length)), (w.heap.size + 1, #[.slice (some ⟨w.heap.size, 0, none⟩) m m]), (w.heap.size + 1 + 1, #[s.ptr])] W0 := by
    rw [hW0, HP.out]
    refine Fo.sub ((((Fo.start (fun _ => False) w).push (cellsOf (List.replicate m (0 : Int))) 3 (b := w.heap.size) rfl).push #[.slice (some ⟨w.heap.size, 0, none⟩) m m] 29 (b := w.heap.size + 1) (by simp)).push #[.pointer (some ⟨b, o, none⟩)] 71 (b := w.heap.size + 1 + 1) (by simp)) (fun r hr => ?_)
    simp only [List.length_nil, laid_zero, List.mem_cons, List.not_mem_nil, or_false] at hr ⊢
    rcases hr with rfl | rfl | rfl <;> simp
  have S0 : s.At W0 l := Sh.keep HS.out F0.only (fun _ _ q => q)
  rw [← hW0]
  clear hW0 hmk
  have hst := eachc_led (w.heap.size + 1 + 1) s l (SizeR w s l m) HS.out (fun pre W hR => ⟨(hR.2.one (b := w.heap.size + 1 + 1) (v := s.ptr) (by simp)).1, hR.1⟩)
  refine range_led (n := 3) rfl (by omega) rfl trivial (enters_of Try.func49 (by kernel_rfl) rfl) _ (fun _ _ _ => False) hst (fun _ => rfl) ?hI (fun _ _ _ _ _ hs _ _ => hs.elim) ⟨S0, F0⟩
    (fun x => { tmps := #[.pointer (some ⟨b, o, none⟩), .int .i64 (m : Int), undef, undef, .pointer (some ⟨w.heap.size + 1, 0, none⟩), .int .i64 x, (Value.int .i64 (l.getD x.toNat (0 : Int))), .int .i64 (m : Int), .slice (some ⟨w.heap.size, 0, none⟩) m m, .pointer (some ⟨b, o, none⟩), .func (.func 49) #[] #[.pointer (some ⟨w.heap.size + 1 + 1, 0, none⟩)], .int .i64 x, (Value.int .i64 (l.getD x.toNat (0 : Int))), undef, undef, undef, undef, undef, undef, undef, undef, undef, undef, undef], defers := [] }) ?assign ?body ?done ?stop
  case hI =>
    rintro pre A V row ⟨hk, hF⟩ hg hr
    exact ⟨Sh.off hk hg (fun r e => (hr r e).2), hF.off (by omega) hg hr⟩
  case assign =>
    intro f x W K hK
    simp only [encE]
    gi_wp2
    exact hK
  case body =>
    rintro f pre x W ⟨hk, hF⟩ ⟨k, rfl, hlt, rfl⟩
    simp only [Int.toNat_natCast]
    have hkm : k < m := by omega
    have hc := hF.cell (b := w.heap.size) (c := cellsOf (laid (0 : Int) m l (upTo k).length)) (by simp) k (cells_at (by rw [upTo_length, laid_length hl (by omega)]; exact hkm))
    have hb := hF.one (b := w.heap.size + 1) (v := .slice (some ⟨w.heap.size, 0, none⟩) m m) (by simp)
    obtain ⟨c1, c2⟩ := hc
    obtain ⟨b1, b2⟩ := hb
    have HE : Hid ((cellsOf (laid (0 : Int) m l (upTo k).length)).setIfInBounds k (Value.int .i64 (l.getD k (0 : Int))) = cellsOf (laid (0 : Int) m l (upTo k ++ [(k : Int)]).length)) := hide (by rw [cells_set, upTo_length, laid_set hl hlt, List.length_append, upTo_length]; rfl)
    have HK := hide hk
    have HF := hide hF
    have HLT := hide hlt
    obtain ⟨x, hx⟩ : ∃ x, x = l.getD k (0 : Int) := ⟨_, rfl⟩
    rw [← hx] at HE ⊢
    have hkmi : (k : Int) < m := by omega
    clear hk hF hx hlt
    gi_wp2
    refine ⟨(KeepsOthers.setCell W _ _).from _, Sh.keep (S := fun j => j = w.heap.size) HK.out ((Only.refl _ _).put k _) (fun j hj e => by have := Sh.lt HS.out j hj; omega), ?_⟩
    rw [← HE.out]
    exact HF.out.set (.inr (Nat.le_refl _)) (fun r hr => by
      simp only [List.mem_cons, List.not_mem_nil, or_false] at hr
      rcases hr with rfl | rfl <;> simp <;> omega)
  case done =>
    rintro D xs W hD rfl ⟨hz, hF⟩ hK
    obtain ⟨q1, qf, c0, c1, q2⟩ := Sh.box hz HPL.out
    have hb1 := hF.one (b := w.heap.size + 1) (v := .slice (some ⟨w.heap.size, 0, none⟩) m m) (by simp)
    have hlb := Sh.lt HS.out b q1
    obtain ⟨b1, b2⟩ := hb1
    obtain ⟨d0, d1, _⟩ := is3 q2 qf
    have f0 := q2.frozen o
    have f1 := q2.frozen (o + 1)
    have HB := hide q2
    have HF := hide hF
    have HK := hide hK
    have HDb : Hid (D ≠ b) := hide (fun e => by omega)
    clear hz hF q2 q1 hK
    gi_wp2
    have O2 : Only (fun k => k = b) W ((W.setCell ⟨b, o, none⟩ (.slice (some ⟨w.heap.size, 0, none⟩) m m)).setCell ⟨b, o + 1, none⟩ (.int .i64 0)) := ((Only.refl _ _).put o _).put (o + 1) _
    have hK2 := (O2.block D (Array.getElem?_eq_some_iff.1 HK.out).1 HDb.out).trans HK.out
    have hB2 := is3_set1 (is3_set0 HB.out (.slice (some ⟨w.heap.size, 0, none⟩) m m)) (.int .i64 0)
    have hR2 := (HF.out.boxes (w.heap.size, cellsOf (laid (0 : Int) m l (upTo l.length).length)) (by simp)).keep O2 (by show ¬ w.heap.size = b; omega)
    rw [upTo_length] at hR2
    generalize (W.setCell ⟨b, o, none⟩ (.slice (some ⟨w.heap.size, 0, none⟩) m m)).setCell ⟨b, o + 1, none⟩ (.int .i64 0) = W2 at *
    have hg := grownBy_putObj' W2 D (.deferred none)
    have hr : ∀ r, some D = some r → W0.heap.size ≤ r ∧ ∃ o : Obj, W2.heap[r]? = some o ∧ o.isCells = false := fun r e => by cases e; exact ⟨hD, _, hK2, rfl⟩
    refine ⟨by simp, .inl ⟨_, _, rfl, run_takeDeferred hK2, ?_⟩⟩
    refine ⟨_, results_none rfl _ _ _, rfl, ⟨is_off hB2 hg (fun r e => (hr r e).2), qf, is_off hR2 hg (fun r e => (hr r e).2), by omega, Ring.laid hl h0, hm⟩, ?_⟩
    exact only_off ((HF.out.only.mono (fun _ q => q.elim)).trans O2) (by omega) hg hr
  case stop =>
    rintro D cc pre W hD _ h _
    exact h.elim
end Go.Proofs.Ythajooipaiiieaa.DqI
