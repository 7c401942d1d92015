/- Joined out of the texts SetMake, SetList, PickProg, SetOwn, SetRef, PickRef, PickStep, in that order. -/
import Derived.Test.YtkjdjmcecjaolaaAll9
import Derived.Deep.DeepMust
import Derived.Deep.RegionHeld3
import Derived.Deep.LoopGhost
import Derived.Test.YtkjdjmcecjaolaaAll3
import Derived.Test.YtkjdjmcecjaolaaAll2
/- The set of some numbers: the program's Of. -/
namespace Go.Proofs.Ytkjdjmcecjaolaa.Sets
open Go.RowKit Go.Proofs.Ytkjdjmcecjaolaa.Dig Go.Proofs.Ytkjdjmcecjaolaa.Mem Go.Sort
set_option linter.unusedVariables false
set_option linter.unusedSimpArgs false

def encN (x : Int) : Value := .int .i64 x
theorem Try.infoSetInt : (Try.prog.info? 3).map (fun i => (i.zero, i.size, i.bytes)) = some (some (.int .i64 0), 1, 8) := by kernel_rfl
theorem mk_ints (n : Nat) (hn : n ≤ 1000000) : ∀ w : World, (Instr.makeSlice 23 (.int .i64 (n : Int)) (.int .i64 (n : Int))).run Try.prog w = .ok (.slice (some ⟨w.heap.size, 0, none⟩) n n) (w.alloc (.cells (List.replicate n (Value.int .i64 0)).toArray 3)) := by
  intro w
  obtain ⟨i0, hi, hz0, hz1, hz2⟩ := info_parts Try.infoSetInt
  have hr := run_makeSlice (P := Try.prog) w 23 3 i0 (.int .i64 0) Try.underlying23 hi hz0 .i64 .i64 (n : Int) (n : Int) (by omega) (Int.le_refl _) (by rw [hz1]; simp; omega) (by rw [hz2]; omega) (by omega)
  simp only [Int.toNat_natCast] at hr
  rw [hz1, Nat.mul_one, madeCells_one _ rfl] at hr
  exact hr
/-- A block that holds a list reads it. -/
theorem is_rowv {w : World} {b c : Nat} {l : List Int} {cs : Array Value} (h : Is w b cs) (hc : ∀ i, i < l.length → cs[i]? = some (.int .i64 (l.getD i 0))) (hl : l.length ≤ c) (hm : l.length ≤ 1000000000000) (hw : ∀ n ∈ l, (Lit.int .i64 n).wf = true) : RowV w (some ⟨b, 0, none⟩) c l :=
  ⟨hl, ⟨hm, fun i hi => ⟨b, 0, rfl, h.cell _ (by rw [Nat.zero_add]; exact hc i hi), by
    show (Lit.int .i64 (l.getD i 0)).wf = true
    rw [List.getD_eq_getElem?_getD, List.getElem?_eq_getElem hi]
    exact hw _ (List.getElem_mem hi)⟩⟩, fun e => by cases e⟩
theorem sort_at (b n cap : Nat) (l : List Int) (w : World) (h : Is w b (l.toArray.map encN)) (hn : l.length = n) (hm : n ≤ 1000000) :
    Calls Try.prog 56 #[.slice (some ⟨b, 0, none⟩) n cap] w fun e w' => e = .returned (.tuple #[]) ∧ Is w' b ((l.mergeSort fun x y => decide (x ≤ y)).toArray.map encN) ∧ Only (fun k => k = b) w w' := by
  subst hn
  refine (Try.slices_Sort_int b 0 cap l w (holds_is h) h.lt (by omega)).mono ?_
  rintro e w' ⟨rfl, n, os, rfl⟩
  exact ⟨rfl, is_grow (is_putRow h (by simp)), (only_putRow (S := fun k => k = b) rfl).trans only_grow⟩
theorem compact_at (b n cap : Nat) (l : List Int) (w : World) (h : Is w b (l.toArray.map encN)) (hn : l.length = n) (hm : n ≤ 1000000) (hc : n ≤ cap) :
    Calls Try.prog 57 #[.slice (some ⟨b, 0, none⟩) n cap] w fun e w' => e = .returned (.slice (some ⟨b, 0, none⟩) (Lib.compact l).length cap) ∧ (∃ r : List Int, Is w' b ((Lib.compact l ++ r).toArray.map encN)) ∧ Only (fun k => k = b) w w' := by
  subst hn
  have hl : (Lib.compact l).length ≤ l.length := compact_le l
  refine (Try.slices_Compact_int b 0 cap l w (holds_is h) (by omega) hc).mono ?_
  rintro e w' ⟨rfl, q, rfl⟩
  exact ⟨rfl, ⟨_, is_putRow h (by simp; omega)⟩, only_putRow (S := fun k => k = b) rfl⟩
def FillR (w : World) (l : List Int) (n : Nat) (i : Value) (wr : World) : Prop :=
  ∃ k : Nat, k ≤ n ∧ i = .int .i64 (k : Int) ∧ Hid (Is wr (w.heap.size + 1) (fillZ encN (.int .i64 0) l n k)) ∧ Hid (Is wr w.heap.size #[.slice none 0 0]) ∧ Hid (Below w.heap.size w wr)
/-- A set as a value. -/
def SetV (w : World) (v : Value) (s : List Int) : Prop := ∃ a c, v = .agg #[.slice a s.length c] ∧ RowV w a c s
theorem SetV.keep {w w' : World} {v : Value} {s : List Int} (h : SetV w v s) (hb : Below w.heap.size w w') : SetV w' v s := by
  obtain ⟨a, c, e, h⟩ := h
  exact ⟨a, c, e, h.keep hb⟩
theorem RowV.wf {w : World} {a : Option Addr} {c : Nat} {l : List Int} (h : RowV w a c l) : ∀ n ∈ l, (Lit.int .i64 n).wf = true := fun n hn => by
  obtain ⟨i, hi, e⟩ := List.getElem_of_mem hn
  obtain ⟨_, _, _, _, hw⟩ := h.rd.2 i hi
  have : (fun i => l.getD i 0) i = n := by show l.getD i 0 = n; rw [List.getD_eq_getElem?_getD, List.getElem?_eq_getElem hi]; exact e
  rw [this] at hw
  exact hw
/-- A set whose things, if there are any, lie in a block that is not older than B. -/
def FreshV (B : Nat) (v : Value) : Prop := ∀ b o sp n c, v = .agg #[.slice (some ⟨b, o, sp⟩) n c] → 0 < n → B ≤ b
theorem RowV.put {w : World} {a : Option Addr} {c B : Nat} {l : List Int} (h : RowV w a c l) (hB : ∀ b o sp, a = some ⟨b, o, sp⟩ → 0 < l.length → b ≠ B) (u : Value) : RowV (w.setCell ⟨B, 0, none⟩ u) a c l :=
  ⟨h.cap, h.rd.only' (S := fun k => k = B) ((Only.refl _ _).put 0 u) (fun hl x e => hB x.block x.off x.spot (by rw [e]) hl), h.nil⟩
theorem of_done {w w1 : World} {l : List Int} {n : Nat} (hw : ∀ x ∈ l, (Lit.int .i64 x).wf = true) (hn : l.length = n) (hm : n ≤ 1000000) {s : List Int} (hs : s = setL ltI l) {r : List Int} (h : Is w1 (w.heap.size + 1) ((s ++ r).toArray.map encN)) : RowV w1 (some ⟨w.heap.size + 1, 0, none⟩) n s := by
  have h1 := setL_length (lt := ltI) l
  rw [← hs] at h1
  refine is_rowv h (fun i hi => ?_) (by omega) (by omega) (fun x hx => hw x (by rw [hs] at hx; exact (mem_setL totI l x).1 hx))
  have hi2 : i < s.length + r.length := by omega
  simp [hi, List.getElem?_append_left, encN]
set_option maxHeartbeats 1000000 in
/-- The program's Of. -/
theorem of_any (a : Option Addr) (c : Nat) (l : List Int) (w : World) (h : RowV w a c l) (hm : l.length ≤ 1000000) :
    Calls Try.prog 40 #[.slice a l.length c] w fun e w' => ∃ v, e = .returned v ∧ SetV w' v (setL ltI l) ∧ FreshV w.heap.size v ∧ Below w.heap.size w w' := by
  have HW := hide h.wf
  have HA := hide h
  obtain ⟨n, hn⟩ : ∃ n, l.length = n := ⟨_, rfl⟩
  rw [hn] at hm ⊢
  have hmk := mk_ints n hm
  have HN : Hid (l.length = n) := hn
  have HM : Hid (n ≤ 1000000) := hm
  have R0 : ∀ (w1 : World), Hid (w1 = (w.alloc (.cells #[.slice none 0 0] 86)).alloc (.cells (List.replicate n (Value.int .i64 0)).toArray 3)) → Hid (FillR w l n (.int .i64 0) w1) := by
    intro w1 e
    have e := e.out
    subst e
    exact ⟨0, by omega, rfl, by rw [fillZ_zero]; exact Is.made _ _ _ (by simp), (Is.made _ _ _ rfl).alloc _, ((Below.refl _ _).alloc (Nat.le_refl _) _).alloc (by simp) _⟩
  clear hn h
  go_enter Try.func40, Try.ntmps40
  go_wp2
  go_loopw [12] (fun i wr => FillR w l n i wr) (fun i _ => n - (intOf i).toNat)
  case atStart => exact (R0 _ rfl).out
  case round =>
    obtain ⟨k, hk, rfl, hI, hC, hB⟩ := hrel
    by_cases hlt : k < n
    · obtain ⟨b1, o1, rfl, hc1⟩ := (HA.out.keep (hB.out.mono (Nat.le_refl _))).at (show k < l.length by rw [HN.out]; exact hlt)
      have hz : l[k]? = some (l.getD k 0) := by rw [List.getD_eq_getElem?_getD, List.getElem?_eq_getElem (by rw [HN.out]; exact hlt)]; rfl
      have hwx := HW.out (l.getD k 0) (List.mem_of_getElem? hz)
      obtain ⟨x, hx⟩ : ∃ x, x = l.getD k 0 := ⟨_, rfl⟩
      rw [← hx] at hc1 hz hwx
      have HZ := hide hz
      have hb1 := bounds_i64 hwx
      obtain ⟨q1, q2⟩ := hb1
      have hcell := hI.out.cell k (fillZ_get HN.out hlt)
      have hfz := hI.out.frozen k
      clear hx hz hwx
      go_wp2
      go_roundw
      case rel => exact ⟨k + 1, by omega, by go_num, by rw [← fillZ_set HN.out hlt HZ.out]; exact hI.out.set k _, hC.out.other (by simp) _, hB.out.setCell (p := ⟨w.heap.size + 1, k, none⟩) (by simp) _⟩
      case measure => simp [intOf]; omega
    · obtain rfl : k = n := by omega
      have HI1 : Hid (Is wr (w.heap.size + 1) (l.toArray.map encN)) := by have := hI.out; rw [fillZ_all HN.out] at this; exact this
      have hMl : (l.mergeSort fun x y => decide (x ≤ y)).length = k := by rw [List.length_mergeSort]; exact HN.out
      have HS : Hid (Lib.compact (l.mergeSort fun x y => decide (x ≤ y)) = setL ltI l) := sort_set_int l
      have HML := hide hMl
      clear hI hMl hmk R0
      go_wp2_with (first | (go_at_call 56; go_must ((with_reducible refine (sort_at (w.heap.size + 1) k k l _ HI1.out HN.out HM.out).mono ?_); rintro e w2 ⟨rfl, hs2, ho2⟩; have HI2 := hide hs2; have HC2 := hide (hC.out.keep ho2 (by omega)); have HB2 := hide (hB.out.only ho2 (fun i q => by omega) hB.out.size); clear hs2 ho2 HI1 hC hB)) | (go_at_call 57; go_must ((with_reducible refine (compact_at (w.heap.size + 1) k k _ _ HI2.out HML.out HM.out (Nat.le_refl _)).mono ?_); rintro e w3 ⟨rfl, ⟨r3, hs3⟩, ho3⟩; have HI3 := hide hs3; have HC3 := hide (HC2.out.keep ho3 (by omega)); have HB3 := hide (HB2.out.only ho3 (fun i q => by omega) HB2.out.size); have hc3 : w3.cell? ⟨w.heap.size, 0, none⟩ = some (.slice none 0 0) := HC3.out.cell 0 rfl; have hf3 := HC3.out.frozen 0; clear hs3 ho3 HI2 HC2 HB2)))
      obtain ⟨S, hS⟩ : ∃ S, S = Lib.compact (l.mergeSort fun x y => decide (x ≤ y)) := ⟨_, rfl⟩
      have hS2 : S = setL ltI l := hS.trans HS.out
      have hI4 := HI3.out
      rw [← hS] at hI4
      have hV := of_done (w := w) HW.out HN.out HM.out hS2 (hI4.other (p := ⟨w.heap.size, 0, none⟩) (by simp) (.slice (some ⟨w.heap.size + 1, 0, none⟩) S.length k))
      have hb4 := HB3.out.setCell (p := ⟨w.heap.size, 0, none⟩) (Nat.le_refl _) (.slice (some ⟨w.heap.size + 1, 0, none⟩) S.length k)
      have hc4 : (w3.setCell ⟨w.heap.size, 0, none⟩ (.slice (some ⟨w.heap.size + 1, 0, none⟩) S.length k)).cell? ⟨w.heap.size, 0, none⟩ = some (.slice (some ⟨w.heap.size + 1, 0, none⟩) S.length k) := (HC3.out.set 0 _).cell 0 rfl
      rw [← hS]
      exact bodyPost_ret (v := .agg #[.slice (some ⟨w.heap.size + 1, 0, none⟩) S.length k]) (by simp [results, Try.results40, go_sem, hc4]) rfl ⟨_, rfl, ⟨_, _, by rw [← hS2], by rw [← hS2]; exact hV⟩, fun b o sp n c e _ => by injection e with e; injection e with e; simp at e; omega, hb4⟩
end Go.Proofs.Ytkjdjmcecjaolaa.Sets

/- What a set answers of itself: its list, how many there are, whether something is in it. -/
namespace Go.Proofs.Ytkjdjmcecjaolaa.Sets
open Go.RowKit Go.Proofs.Ytkjdjmcecjaolaa.Dig Go.Proofs.Ytkjdjmcecjaolaa.Mem Go.Sort
set_option linter.unusedVariables false
set_option linter.unusedSimpArgs false

/-- A row of the call's own, as a row that is read. -/
theorem own_rowv {w : World} {base : Nat} {v : Value} {l : List Int} (h : w.ownsRow base 3 1 v l.length (l.map (Value.int .i64))) (hl : l.length ≤ 1000000000000) (hw : ∀ n ∈ l, (Lit.int .i64 n).wf = true) :
    ∃ a cap, v = .slice a l.length cap ∧ RowV w a cap l := by
  obtain ⟨a, cap, e, h1, h2⟩ := Rd.own h hl hw
  refine ⟨a, cap, e, h1, h2, fun q => ?_⟩
  subst q
  rcases h.2 with ⟨hv, _⟩ | ⟨g, cap', cur, hv, _⟩
  · rw [hv] at e; injection e with e1 e2 e3; exact e3.symm
  · rw [hv] at e; injection e with e1; cases e1
theorem clone_fresh (a : Option Addr) (c : Nat) (l : List Int) (w : World) (h : RowV w a c l) (hm : l.length ≤ 1000000) :
    Calls Try.prog 23 #[.slice a l.length c] w fun e w' => (∃ a' c', e = .returned (.slice a' l.length c') ∧ RowV w' a' c' l ∧ ∀ x, a' = some x → w.heap.size ≤ x.block) ∧ Below w.heap.size w w' := by
  cases a with
  | none =>
    have hl0 : l = [] := by
      cases l with
      | nil => rfl
      | cons x l => obtain ⟨b, off, e, _⟩ := h.at (i := 0) (by simp); cases e
    subst hl0
    refine (Try.slices_Clone_int_nil 0 c w).mono ?_
    rintro e w' ⟨rfl, rfl⟩
    exact ⟨⟨none, 0, rfl, ⟨by simp, ⟨by simp, by simp⟩, fun _ => rfl⟩, fun x e => by cases e⟩, Below.refl _ _⟩
  | some ad =>
    by_cases h0 : l = []
    · subst h0
      refine (Try.slices_Clone_int_zero ad c w).mono ?_
      rintro e w' ⟨v', rfl, hown, _, hb⟩
      obtain ⟨a', c', rfl, hr⟩ := own_rowv (l := []) hown (by simp) (by simp)
      exact ⟨⟨_, _, rfl, hr, fun x e => by subst e; exact (World.ownsRow.lt hown x.block rfl).1⟩, hb⟩
    · obtain ⟨b, off, e, _⟩ := h.at (i := 0) (by cases l with
        | nil => exact absurd rfl h0
        | cons x l => simp)
      cases e
      refine (Try.slices_Clone_int b off l.length c l w (Nat.le_refl _) (by omega) (fun j hj => ?_)).mono ?_
      · obtain ⟨b', off', e, hc⟩ := h.at hj
        cases e
        exact hc
      · rintro e w' ⟨v', rfl, hown, _, hb⟩
        rw [List.take_length] at hown
        obtain ⟨a', c', rfl, hr⟩ := own_rowv hown (by omega) h.wf
        exact ⟨⟨_, _, rfl, hr, fun x e => by subst e; exact (World.ownsRow.lt hown x.block rfl).1⟩, hb⟩
theorem clone_any (a : Option Addr) (c : Nat) (l : List Int) (w : World) (h : RowV w a c l) (hm : l.length ≤ 1000000) :
    Calls Try.prog 23 #[.slice a l.length c] w fun e w' => (∃ a' c', e = .returned (.slice a' l.length c') ∧ RowV w' a' c' l) ∧ Below w.heap.size w w' := by
  refine (clone_fresh a c l w h hm).mono ?_
  rintro e w' ⟨⟨a', c', rfl, h1, _⟩, h2⟩
  exact ⟨⟨a', c', rfl, h1⟩, h2⟩
theorem list_any (v : Value) (s : List Int) (w : World) (h : SetV w v s) (hm : s.length ≤ 1000000) :
    Calls Try.prog 44 #[v] w fun e w' => (∃ a c, e = .returned (.slice a s.length c) ∧ RowV w' a c s) ∧ Below w.heap.size w w' := by
  obtain ⟨a, c, rfl, hr⟩ := h
  have H0 : Hid (∀ T : TypeId, Calls Try.prog 23 #[.slice a s.length c] (w.alloc (.cells #[.slice a s.length c] T)) fun e w' => (∃ a' c', e = .returned (.slice a' s.length c') ∧ RowV w' a' c' s) ∧ Below (w.alloc (.cells #[.slice a s.length c] T)).heap.size (w.alloc (.cells #[.slice a s.length c] T)) w') :=
    fun T => clone_any a c s _ (hr.keep ((Below.refl _ _).alloc (Nat.le_refl _) _)) hm
  obtain ⟨n, hn⟩ : ∃ n, n = s.length := ⟨_, rfl⟩
  rw [← hn] at H0 ⊢
  clear hn hr hm
  go_enter Try.func44, Try.ntmps44
  go_wp2_with (go_at_call 23; go_must ((with_reducible refine (H0.out _).mono ?_); rintro e w9 ⟨⟨a9, c9, rfl, hr9⟩, hb9⟩; have HR := hide hr9; have HB := hide hb9; clear hr9 hb9))
  go_ret
  exact ⟨⟨_, _, rfl, HR.out⟩, ((Below.refl _ _).alloc (Nat.le_refl _) _).trans (HB.out.mono (by simp))⟩
theorem len_any (v : Value) (s : List Int) (w : World) (h : SetV w v s) :
    Calls Try.prog 43 #[v] w fun e w' => e = .returned (.int .i64 (s.length : Int)) ∧ Below w.heap.size w w' := by
  obtain ⟨a, c, rfl, hr⟩ := h
  go_enter Try.func43, Try.ntmps43
  go_wp2
  go_ret
  exact ⟨rfl, (Below.refl _ _).alloc (Nat.le_refl _) _⟩
end Go.Proofs.Ytkjdjmcecjaolaa.Sets

/- The program's New and Step. -/
namespace Go.Proofs.Ytkjdjmcecjaolaa.Pick
open Go.RowKit Go.Proofs.Ytkjdjmcecjaolaa.Dig Go.Proofs.Ytkjdjmcecjaolaa.Mem Go.Proofs.Ytkjdjmcecjaolaa.Dq Go.Proofs.Ytkjdjmcecjaolaa.Thing Go.Proofs.Ytkjdjmcecjaolaa.Sets
set_option linter.unusedVariables false
set_option linter.unusedSimpArgs false

theorem row_v {w : World} {a : Option Addr} {c : Nat} {l : List Int} (h : RowI w a c l) : RowV w a c l := ⟨h.cap, h.rd, h.nil⟩
theorem row_i {w : World} {a : Option Addr} {c : Nat} {l : List Int} (h : RowV w a c l) : RowI w a c l := ⟨h.cap, h.rd, h.nil⟩
theorem new_any {w : World} {a : Option Addr} {m p : Nat} {L : List Int} (c : Int) (h : RowI w a p L) (hm : m = L.length) (hL : L.length ≤ 1000000) : Calls Try.prog 10 #[.slice a m p, .int .i64 c] w fun e w' =>
    ∃ b pa pc, e = .returned (.pointer (some ⟨b, 0, none⟩)) ∧ Scr w' b pa pc L c 0 ∧ (∀ k, (scrT b pa pc L c 0).F k → w.heap.size ≤ k) ∧ Below w.heap.size w w' := by
  subst hm
  have HC := hide (clone_fresh a p L w (row_v h) hL)
  obtain ⟨m, hm⟩ : ∃ m, m = L.length := ⟨_, rfl⟩
  have HM := hide hm
  rw [← hm] at HC ⊢
  clear h hm
  go_enter Try.func10, Try.ntmps10
  go_wp2_with (go_at_call 23; go_must ((with_reducible refine (Hid.out HC).mono ?_); rintro e w2 ⟨⟨pa, pc, rfl, hr, hf⟩, hb⟩; have HR := hide hr; have HF := hide hf; have HB := hide hb; clear hr hf hb))
  go_ret
  refine ⟨w2.heap.size, pa, pc, rfl, ⟨?_, row_i (HR.out.keep ((Below.refl _ _).alloc (Nat.le_refl _) _)), fun hl x e q => ?_⟩, fun k hk => ?_, HB.out.alloc HB.out.size _⟩
  · rw [← HM.out]
    exact Is.made _ _ _ rfl
  · have := Rd.lt HR.out.rd hl x e
    omega
  · rcases hk with rfl | ⟨_, x, e, rfl⟩
    · exact HB.out.size
    · exact HF.out x e
section
variable {w : World} {b n : Nat} {pa : Option Addr} {pc : Nat} {L : List Int} {c : Int}
theorem pstep_nil (w : World) (r : Value) : Calls Try.prog 25 #[.pointer none, r] w fun e w' => e = .returned (.tuple #[.int .i64 0, .int .i64 1]) ∧ w' = w := by
  go_enter Try.func25, Try.ntmps25
  go_wp2
  refine bodyPost_ret (v := .tuple #[.int .i64 0, .int .i64 1]) (by simp [results, Try.results25, go_sem]) rfl ?_
  exact ⟨rfl, rfl⟩
theorem pstep_un {w : World} {b : Nat} {v0 v1 v2 : Value} (h : Is w b #[v0, v1, v2, .bool false]) (r : Value) : Calls Try.prog 25 #[.pointer (some ⟨b, 0, none⟩), r] w fun e w' => e = .returned (.tuple #[.int .i64 0, .int .i64 1]) ∧ w' = w := by
  obtain ⟨⟨c0, c1, c2, c3⟩, _⟩ := h.four
  clear h
  go_enter Try.func25, Try.ntmps25
  go_wp2
  refine bodyPost_ret (v := .tuple #[.int .i64 0, .int .i64 1]) (by simp [results, Try.results25, go_sem]) rfl ?_
  exact ⟨rfl, rfl⟩
theorem pstep_over (h : Scr w b pa pc L c n) (ho : over c n = true) (r : Value) : Calls Try.prog 25 #[.pointer (some ⟨b, 0, none⟩), r] w fun e w' => e = .returned (.tuple #[.int .i64 0, .int .i64 8]) ∧ ∃ q, w' = w.drewN q := by
  have HO := hide (over_any h)
  rw [ho] at HO
  obtain ⟨⟨c0, c1, c2, c3⟩, _⟩ := h.box.four
  clear h ho
  go_enter Try.func25, Try.ntmps25
  go_wp2_with (go_at_call 39; go_must ((with_reducible refine (Hid.out HO).mono ?_); rintro e w2 ⟨rfl, q, rfl⟩))
  refine bodyPost_ret (v := .tuple #[.int .i64 0, .int .i64 8]) (by simp [results, Try.results25, go_sem]) rfl ?_
  exact ⟨rfl, _, rfl⟩
theorem pstep_none (h : Scr w b pa pc L c n) (ho : over c n = false) (ra : Option Addr) (rc : Nat) : Calls Try.prog 25 #[.pointer (some ⟨b, 0, none⟩), .slice ra 0 rc] w fun e w' => e = .returned (.tuple #[.int .i64 0, .int .i64 10]) ∧ ∃ q, w' = w.drewN q := by
  have HO := hide (over_any h)
  rw [ho] at HO
  obtain ⟨⟨c0, c1, c2, c3⟩, _⟩ := h.box.four
  clear h ho
  go_enter Try.func25, Try.ntmps25
  go_wp2_with (go_at_call 39; go_must ((with_reducible refine (Hid.out HO).mono ?_); rintro e w2 ⟨rfl, q, rfl⟩))
  refine bodyPost_ret (v := .tuple #[.int .i64 0, .int .i64 10]) (by simp [results, Try.results25, go_sem]) rfl ?_
  exact ⟨rfl, _, rfl⟩
/-- What is known within the step: the set of the ready lies in a box. -/
structure MidS (w : World) (b n qb sl sc : Nat) (pa : Option Addr) (pc : Nat) (L : List Int) (c : Int) (sa : Option Addr) (s : List Int) (W : World) : Prop where
  scr : Scr W b pa pc L c n
  set : RowV W sa sc s
  box : Is W qb #[.slice sa sl sc]
  only : Only (fun k => k = b) w W
theorem MidS.keep {w W W' : World} {b n qb sl sc : Nat} {pa : Option Addr} {pc : Nat} {L : List Int} {c : Int} {sa : Option Addr} {s : List Int} (h : MidS w b n qb sl sc pa pc L c sa s W) (hb : Below W.heap.size W W') : MidS w b n qb sl sc pa pc L c sa s W' :=
  ⟨h.scr.keep hb, h.set.keep hb, h.box.below hb, h.only.trans (Only.of_below hb)⟩
theorem MidS.more {w W : World} {b n qb sl sc : Nat} {pa : Option Addr} {pc : Nat} {L : List Int} {c : Int} {sa : Option Addr} {s : List Int} (h : MidS w b n qb sl sc pa pc L c sa s W) (hq : ¬ qb = b) (hs : ∀ x, sa = some x → x.block ≠ b) : MidS w b (n + 1) qb sl sc pa pc L c sa s (W.setCell ⟨b, 2, none⟩ (.int .i64 ((n : Int) + 1))) :=
  ⟨by simpa using h.scr.more (n + 1), ⟨h.set.cap, h.set.rd.only' (S := fun k => k = b) ((Only.refl _ _).put 2 _) (fun _ x e => hs x e), h.set.nil⟩, h.box.other (Ne.symm hq) _, h.only.put 2 _⟩
set_option maxHeartbeats 4000000 in
theorem pstep_ok (h : Scr w b pa pc L c n) (ho : over c n = false) (hn : n ≤ 1000000) {ra : Option Addr} {rc k : Nat} {l : List Int} (hl : l ≠ []) (hk : k = l.length) (hk2 : l.length ≤ 1000000) (hr : RowI w ra rc l) :
    Calls Try.prog 25 #[.pointer (some ⟨b, 0, none⟩), .slice ra k rc] w fun e w' => e = .returned (.tuple #[.int .i64 (told L n l), .int .i64 0]) ∧ Scr w' b pa pc L c (n + 1) ∧ Only (fun k => k = b) w w' := by
  have HO := hide (over_any h)
  rw [ho] at HO
  have hs := setL_ne hl
  have hj := place_lt L n hs
  have hji := place_int L n hs
  have hsl2 := setL_length (lt := ltI) l
  have HT0 : told L n l = (setL ltI l).getD (place L n (setL ltI l).length) 0 := rfl
  have hk0 : 0 < k := by rw [hk]; cases l with | nil => exact absurd rfl hl | cons y l => simp
  obtain ⟨s, hs'⟩ : ∃ s, s = setL ltI l := ⟨_, rfl⟩
  rw [← hs'] at HT0 hj hji hs hsl2
  obtain ⟨sl, hsl⟩ : ∃ sl, sl = s.length := ⟨_, rfl⟩
  rw [← hsl] at HT0 hj hji hs hsl2
  obtain ⟨j, hj'⟩ : ∃ j, j = place L n sl := ⟨_, rfl⟩
  rw [← hj'] at HT0 hj hji
  obtain ⟨t, ht⟩ : ∃ t, t = s.getD j 0 := ⟨_, rfl⟩
  rw [← ht] at HT0
  have HT := hide HT0.symm
  have HOF : Hid (∀ q, Calls Try.prog 40 #[.slice ra k rc] (w.drewN q) fun e w' => ∃ sa sc, e = .returned (.agg #[.slice sa sl sc]) ∧ RowV w' sa sc s ∧ (∀ x, sa = some x → 0 < sl → w.heap.size ≤ x.block) ∧ Below w.heap.size w w') := hide (fun q => by
    have := of_any ra rc l (w.drewN q) (row_v (hr.keep (below_of_drewN q))) hk2
    rw [← hs', ← hk] at this
    refine this.mono ?_
    rintro e w' ⟨v, rfl, ⟨a', c', rfl, g1⟩, g2, g3⟩
    rw [← hsl] at g2 ⊢
    exact ⟨a', c', rfl, g1, fun x e hx => by subst e; exact g2 x.block x.off x.spot _ _ rfl hx, (below_of_drewN q).trans g3⟩)
  have HAT : Hid (∀ W a' c', RowV W a' c' s → ∃ b off, a' = some ⟨b, off, none⟩ ∧ W.cell? ⟨b, off + j, none⟩ = some (.int .i64 t)) := hide (fun W a' c' q => by
    obtain ⟨b, off, e, hc⟩ := q.at (i := j) (by omega)
    rw [← ht] at hc
    exact ⟨b, off, e, hc⟩)
  obtain ⟨x, hx⟩ : ∃ x, x = L.getD n 0 := ⟨_, rfl⟩
  have hwf : (Lit.int .i64 x).wf = true := by
    rw [hx]
    by_cases q : n < L.length
    · exact h.row.wf _ (by rw [List.getD_eq_getElem?_getD, List.getElem?_eq_getElem q]; exact List.getElem_mem _)
    · rw [List.getD_eq_getElem?_getD, List.getElem?_eq_none (by omega)]; rfl
  rw [← hx] at hji
  have HNX : Hid (∀ W sa sc qb, MidS w b n qb sl sc pa pc L c sa s W → Calls Try.prog 42 #[.pointer (some ⟨b, 0, none⟩)] W fun e w' => e = .returned (.int .i64 x) ∧ MidS w b n qb sl sc pa pc L c sa s w') := hide (fun W sa sc qb g => by
    have := next_any g.scr
    rw [← hx] at this
    refine this.mono ?_
    rintro e w' ⟨rfl, q, rfl⟩
    exact ⟨rfl, g.keep (below_of_drewN q)⟩)
  have HLN : Hid (∀ W sa sc qb, MidS w b n qb sl sc pa pc L c sa s W → Calls Try.prog 43 #[.agg #[.slice sa sl sc]] W fun e w' => e = .returned (.int .i64 (sl : Int)) ∧ MidS w b n qb sl sc pa pc L c sa s w') := hide (fun W sa sc qb g => by
    have := len_any (.agg #[.slice sa sl sc]) s W ⟨sa, sc, by rw [hsl], g.set⟩
    rw [← hsl] at this
    refine this.mono ?_
    rintro e w' ⟨rfl, hb⟩
    exact ⟨rfl, g.keep hb⟩)
  have HLI : Hid (∀ W sa sc qb, MidS w b (n + 1) qb sl sc pa pc L c sa s W → Calls Try.prog 44 #[.agg #[.slice sa sl sc]] W fun e w' => (∃ a' c', e = .returned (.slice a' sl c') ∧ RowV w' a' c' s) ∧ MidS w b (n + 1) qb sl sc pa pc L c sa s w') := hide (fun W sa sc qb g => by
    have := list_any (.agg #[.slice sa sl sc]) s W ⟨sa, sc, by rw [hsl], g.set⟩ (by omega)
    rw [← hsl] at this
    refine this.mono ?_
    rintro e w' ⟨⟨a', c', rfl, h1⟩, hb⟩
    exact ⟨⟨a', c', rfl, h1⟩, g.keep hb⟩)
  have HMD := hide (fun W => mod_any x sl W hwf hs (by omega) hji.symm)
  have HS0 := hide h
  have hb0 := h.box.lt
  obtain ⟨⟨c0, c1, c2, c3⟩, _⟩ := h.box.four
  have g0 : ((k : Int) == 0) = false := by simp; omega
  have g1 : (j : Int) < (sl : Int) := by omega
  have HSL := hide hs
  clear h ho hr hl hk hk2 hs' hsl ht HT0 hj' hx hji hsl2 hwf
  go_enter Try.func25, Try.ntmps25
  go_wp2_with (first
    | (go_at_call 39; go_must ((with_reducible refine (Hid.out HO).mono ?_); rintro e w2 ⟨rfl, q, rfl⟩))
    | (go_at_call 40; go_must ((with_reducible refine (Hid.out HOF q).mono ?_); rintro e w2 ⟨sa, sc, rfl, hr2, hf2, hb2⟩; have HR2 := hide hr2; have HF2 := hide hf2; have HB2 := hide hb2; clear hr2 hf2 hb2)))
  obtain ⟨qb, hqb⟩ : ∃ qb, qb = w2.heap.size := ⟨_, rfl⟩
  have M0 : Hid (MidS w b n qb sl sc pa pc L c sa s (w2.alloc (.cells #[.slice sa sl sc] 86))) := hide ⟨(HS0.out.keep HB2.out).keep ((Below.refl _ _).alloc (Nat.le_refl _) _), HR2.out.keep ((Below.refl _ _).alloc (Nat.le_refl _) _), Is.made _ _ _ hqb, (Only.of_below HB2.out).alloc _⟩
  have hqb2 : ¬ qb = b := by have := HB2.out.size; omega
  have hsab : ∀ x, sa = some x → x.block ≠ b := fun x e q => by have := HF2.out x e HSL.out; omega
  have HSAB := hide hsab
  rw [← hqb]
  generalize (w2.alloc (.cells #[.slice sa sl sc] 86)) = W3 at *
  clear hqb HR2 HF2 HB2 c0 c1 c2 c3 hsab HOF HO
  have hbx : W3.cell? ⟨qb, 0, none⟩ = some (.slice sa sl sc) := M0.out.box.cell 0 rfl
  have K := hide (M0.out.keep (W' := W3.drew) (Below.refl _ _).drew)
  go_region_held3 (fun w' => w'.cell? ⟨qb, 0, none⟩ = some (.slice sa sl sc)) (first | assumption | go_keep)
    (first
    | (go_at_call 42; ((with_reducible refine (Hid.out HNX _ sa sc qb K.out).mono ?_); rintro e w5 ⟨rfl, hm⟩; replace K := hide hm; have hbx5 := hm.box.cell 0 rfl; clear hm))
    | (go_at_call 43; ((with_reducible refine (Hid.out HLN _ sa sc qb K.out).mono ?_); rintro e w6 ⟨rfl, hm⟩; replace K := hide hm; have hbx6 := hm.box.cell 0 rfl; clear hm))
    | (go_at_call 41; ((with_reducible refine (Hid.out HMD _).mono ?_); rintro e w7 ⟨rfl, rfl⟩)))
  clear hbx5 hbx6
  obtain ⟨⟨c0, c1, c2, c3⟩, f0, f1, f2, f3⟩ := K.out.scr.box.four
  have hbx7 := K.out.box.cell 0 rfl
  have K9 := hide (K.out.more hqb2 HSAB.out)
  clear K c0 c1 c3 f0 f1 f3
  go_simp
  go_wp2_with (go_at_call 44; ((with_reducible refine (Hid.out HLI _ sa sc qb K9.out).mono ?_); rintro e w8 ⟨⟨la, lc, rfl, hr8⟩, hm⟩; have KE := hide hm; obtain ⟨lb, lo, rfl, hlc⟩ := HAT.out _ _ _ hr8; clear hm hr8 hbx7))
  refine bodyPost_ret (v := .tuple #[.int .i64 t, .int .i64 0]) (by simp [results, Try.results25, go_sem]) rfl ?_
  exact ⟨by rw [HT.out], KE.out.scr, KE.out.only⟩
end
end Go.Proofs.Ytkjdjmcecjaolaa.Pick

/- A row of the call's own, as a row that is read. -/
namespace Go.Proofs.Ytkjdjmcecjaolaa.Sets
open Go.RowKit Go.Proofs.Ytkjdjmcecjaolaa.Dig Go.Proofs.Ytkjdjmcecjaolaa.Mem
set_option linter.unusedVariables false
set_option linter.unusedSimpArgs false

/-- A row that is owned, read. -/
theorem rowv_of_own {w : World} {base : Nat} {a : Option Addr} {n c : Nat} {l : List Int} (h : w.ownsRow base 3 1 (.slice a n c) l.length (l.map (Value.int .i64))) (hl : l.length ≤ 1000000) (hw : ∀ n ∈ l, (Lit.int .i64 n).wf = true) : n = l.length ∧ RowV w a c l := by
  obtain ⟨a', c', e, hr⟩ := own_rowv h (by omega) hw
  injection e with e1 e2 e3
  subst e1; subst e2; subst e3
  exact ⟨rfl, hr⟩
theorem own_form {w : World} {base e : TypeId} {v : Value} {n : Nat} {xs : List Value} (h : w.ownsRow base e 1 v n xs) : ∃ a c, v = .slice a n c := by
  rcases h.2 with ⟨rfl, h0⟩ | ⟨g, cap, cur, rfl, _⟩
  · have : n = 0 := by omega
    exact ⟨none, 0, by rw [this]⟩
  · exact ⟨_, _, rfl⟩
theorem fresh_own {w : World} {base e : TypeId} {a : Option Addr} {n m c : Nat} {xs : List Value} (h : w.ownsRow base e 1 (.slice a n c) n xs) : FreshV base (.agg #[.slice a m c]) := fun b o sp n' c' q _ => by
  injection q with q
  simp at q
  obtain ⟨rfl, rfl, rfl⟩ := q
  exact (World.ownsRow.lt h b rfl).1
end Go.Proofs.Ytkjdjmcecjaolaa.Sets

/- The document's set of a row: the least that is not taken, again and again. -/
namespace Go.Proofs.Ytkjdjmcecjaolaa.Sets
open Go.RowKit Go.Proofs.Ytkjdjmcecjaolaa.Dig Go.Proofs.Ytkjdjmcecjaolaa.Mem
set_option linter.unusedVariables false
set_option linter.unusedSimpArgs false

/-- The least that is not among the first k is the next one. -/
theorem next_least {l : List Int} {k : Nat} {b : Int} (hb : b ∈ l) (hn : b ∉ (setL ltI l).take k) (hm : ∀ x ∈ l, x ∉ (setL ltI l).take k → b ≤ x) :
    k < (setL ltI l).length ∧ (setL ltI l).take k ++ [b] = (setL ltI l).take (k + 1) := by
  obtain ⟨s, hs⟩ : ∃ s, s = setL ltI l := ⟨_, rfl⟩
  have hr := rising_setL totI l
  have hmem := mem_setL totI l
  rw [← hs] at hn hm hr hmem ⊢
  have hbs : b ∈ s := (hmem b).2 hb
  rw [← List.take_append_drop k s] at hbs
  have hbd : b ∈ s.drop k := (List.mem_append.1 hbs).resolve_left hn
  have hlt : k < s.length := by
    rcases Nat.lt_or_ge k s.length with q | q
    · exact q
    · rw [List.drop_eq_nil_of_le q] at hbd; simp at hbd
  refine ⟨hlt, ?_⟩
  have hd := List.drop_eq_getElem_cons hlt
  rw [← List.take_append_drop k s] at hr
  obtain ⟨_, hr2, hr3⟩ := rising_append.1 hr
  have hx : s[k] ∉ s.take k := fun q => by
    have hin : s[k] ∈ s.drop k := by rw [hd]; exact List.mem_cons_self
    have := hr3 _ q s[k] hin
    rw [totI.irr] at this; cases this
  have h1 := hm s[k] ((hmem _).1 (List.getElem_mem hlt)) hx
  have h2 : s[k] ≤ b := by
    rw [hd] at hbd hr2
    rcases List.mem_cons.1 hbd with e | q
    · omega
    · have := (rising_cons.1 hr2).1 b q
      simp [ltI] at this
      omega
  have e : s[k] = b := by omega
  rw [List.take_add_one, List.getElem?_eq_getElem hlt, e]
  rfl
theorem none_left {l : List Int} {k : Nat} (h : ∀ x ∈ l, x ∈ (setL ltI l).take k) (hk : k ≤ (setL ltI l).length) : k = (setL ltI l).length := by
  rcases Nat.lt_or_ge k (setL ltI l).length with q | q
  · exfalso
    have hr := rising_setL totI l
    have hd := List.drop_eq_getElem_cons q
    have hx := h _ ((mem_setL totI l _).1 (List.getElem_mem q))
    rw [← List.take_append_drop k (setL ltI l)] at hr
    have hin : (setL ltI l)[k] ∈ (setL ltI l).drop k := by rw [hd]; exact List.mem_cons_self
    have := (rising_append.1 hr).2.2 _ hx _ hin
    rw [totI.irr] at this; cases this
  · omega
def OfR (w : World) (s : List Int) (ov nv : Value) (wr : World) : Prop :=
  ∃ (k : Nat), k ≤ s.length ∧ nv = .int .i64 (k : Int) ∧ Hid (wr.ownsRow w.heap.size 3 1 ov k ((s.take k).map (Value.int .i64))) ∧ Hid (Below w.heap.size w wr)
def InR (l out : List Int) (n : Nat) (bv fv kv : Value) : Prop :=
  ∃ (j : Nat), j ≤ n ∧ kv = .int .i64 (j : Int) ∧ ((fv = .bool false ∧ bv = .int .i64 0 ∧ Hid (∀ i, i < j → l.getD i 0 ∈ out)) ∨ ∃ b, fv = .bool true ∧ bv = .int .i64 b ∧ Hid (b ∈ l ∧ b ∉ out ∧ ∀ i, i < j → l.getD i 0 ∉ out → b ≤ l.getD i 0))
set_option maxHeartbeats 2000000 in
set_option maxRecDepth 20000 in
theorem rof_fresh (a : Option Addr) (c : Nat) (l : List Int) (w : World) (h : RowV w a c l) (hm : l.length ≤ 10000) :
    Calls Try.prog 22 #[.slice a l.length c] w fun e w' => (∃ a' c', e = .returned (.slice a' (setL ltI l).length c') ∧ RowV w' a' c' (setL ltI l) ∧ ∀ x, a' = some x → w.heap.size ≤ x.block) ∧ Below w.heap.size w w' := by
  obtain ⟨i0, hi, hz0, hz1, hz2⟩ := info_parts Try.infoSetInt
  have HA := hide h
  have hsl := setL_length (lt := ltI) l
  have HNL := hide (fun k => none_left (l := l) (k := k))
  have HNX := hide (fun k b => next_least (l := l) (k := k) (b := b))
  have HW : Hid (∀ x ∈ setL ltI l, (Lit.int .i64 x).wf = true) := fun x hx => h.wf x ((mem_setL totI l x).1 hx)
  obtain ⟨s, hs⟩ : ∃ s, s = setL ltI l := ⟨_, rfl⟩
  rw [← hs] at hsl HNL HNX HW ⊢
  obtain ⟨n, hn⟩ : ∃ n, n = l.length := ⟨_, rfl⟩
  rw [← hn] at hsl hm ⊢
  have HN := hide hn
  clear hs hn h
  go_enter Try.func22, Try.ntmps22
  go_wp2
  go_loopw [3, 4] (fun ov nv wr => OfR w s ov nv wr) (fun _ nv _ => n + 1 - (intOf nv).toNat)
  case atStart => exact ⟨0, by omega, rfl, World.ownsRow_nil _ _ _ _, Below.refl _ _⟩
  case round =>
    obtain ⟨k, hk, rfl, hown, hbel⟩ := hrel
    obtain ⟨W, hW⟩ : ∃ W, W = wr := ⟨_, rfl⟩
    subst hW
    obtain ⟨oa, oc, rfl⟩ := own_form hown.out
    have hkn : (k : Int) ≤ (n : Int) := by omega
    have HO : Hid (RowV W oa oc (s.take k)) := by
      have ho := hown.out
      have e : (s.take k).length = k := by rw [List.length_take]; omega
      exact (rowv_of_own (l := s.take k) (n := k) (by rw [e]; exact ho) (by omega) (fun x hx => HW.out x (List.mem_of_mem_take hx))).2
    have HHAS : Hid (∀ x : Int, Calls Try.prog 37 #[.slice oa k oc, .int .i64 x] W fun e w' => e = .returned (.bool (decide (x ∈ s.take k))) ∧ w' = W) := fun x => by
      have := rhas_any oa oc (s.take k) x W HO.out
      rw [show (s.take k).length = k by rw [List.length_take]; omega] at this
      exact this
    have I0 : Hid (InR l (s.take k) n (.int .i64 0) (.bool false) (.int .i64 0)) := ⟨0, by omega, rfl, .inl ⟨rfl, rfl, fun i hi => by omega⟩⟩
    go_wp2
    go_loopw [5, 6, 7] (fun bv fv kv wr => InR l (s.take k) n bv fv kv ∧ wr = W) (fun _ _ kv _ => n - (intOf kv).toNat)
    case atStart => exact ⟨I0.out, rfl⟩
    case round =>
      obtain ⟨⟨j, hj, rfl, hin⟩, hwr⟩ := hrel
      replace hwr := hwr.symm
      subst hwr
      by_cases hlt : j < n
      · have hj2 : j < l.length := by rw [← HN.out]; exact hlt
        obtain ⟨b1, o1, rfl, hc1⟩ := (HA.out.keep (hbel.out.mono (Nat.le_refl _))).at hj2
        have hxl : l.getD j 0 ∈ l := by rw [List.getD_eq_getElem?_getD, List.getElem?_eq_getElem hj2]; exact List.getElem_mem hj2
        obtain ⟨x, hx⟩ : ∃ x, x = l.getD j 0 := ⟨_, rfl⟩
        rw [← hx] at hc1 hxl
        have HX := hide hx
        have HXL := hide hxl
        clear hx hxl hj2
        have step : ∀ (p : Int → Prop), (∀ i, i < j → p (l.getD i 0)) → p x → ∀ i, i < j + 1 → p (l.getD i 0) := fun p h1 h2 i hi => by
          by_cases e : i = j
          · rw [e, ← HX.out]; exact h2
          · exact h1 i (by omega)
        have STEP := hide step
        clear step
        obtain ⟨q, hq⟩ : ∃ q, Hid (decide (x ∈ s.take k) = q) := ⟨_, rfl⟩
        cases q with
        | true =>
          have HQ : Hid (x ∈ s.take k) := hide (of_decide_eq_true hq.out)
          rcases hin with ⟨rfl, rfl, hall⟩ | ⟨b, rfl, rfl, hb⟩
          · have R : Hid (InR l (s.take k) n (.int .i64 0) (.bool false) (.int .i64 ((j : Int) + 1))) := ⟨j + 1, by omega, by simp, .inl ⟨rfl, rfl, STEP.out (fun y => y ∈ s.take k) hall.out HQ.out⟩⟩
            go_wp2_with (go_at_call 37; go_must ((with_reducible refine (HHAS.out x).mono ?_); rw [hq.out]; rintro e w8 ⟨rfl, hw8⟩; replace hw8 := hw8.symm; subst hw8))
            go_roundw
            case rel => exact ⟨R.out, trivial⟩
            case measure => simp [intOf]; omega
          · have R : Hid (InR l (s.take k) n (.int .i64 b) (.bool true) (.int .i64 ((j : Int) + 1))) := ⟨j + 1, by omega, by simp, .inr ⟨b, rfl, rfl, hb.out.1, hb.out.2.1, STEP.out (fun y => y ∉ s.take k → b ≤ y) hb.out.2.2 (fun h => absurd HQ.out h)⟩⟩
            go_wp2_with (go_at_call 37; go_must ((with_reducible refine (HHAS.out x).mono ?_); rw [hq.out]; rintro e w8 ⟨rfl, hw8⟩; replace hw8 := hw8.symm; subst hw8))
            go_roundw
            case rel => exact ⟨R.out, trivial⟩
            case measure => simp [intOf]; omega
        | false =>
          have HQ : Hid (x ∉ s.take k) := hide (of_decide_eq_false hq.out)
          rcases hin with ⟨rfl, rfl, hall⟩ | ⟨b, rfl, rfl, hb⟩
          · have R : Hid (InR l (s.take k) n (.int .i64 x) (.bool true) (.int .i64 ((j : Int) + 1))) := ⟨j + 1, by omega, by simp, .inr ⟨x, rfl, rfl, HXL.out, HQ.out, STEP.out (fun y => y ∉ s.take k → x ≤ y) (fun i hi h => absurd (hall.out i hi) h) (fun _ => Int.le_refl _)⟩⟩
            go_wp2_with (go_at_call 37; go_must ((with_reducible refine (HHAS.out x).mono ?_); rw [hq.out]; rintro e w8 ⟨rfl, hw8⟩; replace hw8 := hw8.symm; subst hw8))
            go_roundw
            case rel => exact ⟨R.out, trivial⟩
            case measure => simp [intOf]; omega
          · by_cases hxb : x < b
            · have R : Hid (InR l (s.take k) n (.int .i64 x) (.bool true) (.int .i64 ((j : Int) + 1))) := ⟨j + 1, by omega, by simp, .inr ⟨x, rfl, rfl, HXL.out, HQ.out, STEP.out (fun y => y ∉ s.take k → x ≤ y) (fun i hi h => by have := hb.out.2.2 i hi h; omega) (fun _ => Int.le_refl _)⟩⟩
              go_wp2_with (go_at_call 37; go_must ((with_reducible refine (HHAS.out x).mono ?_); rw [hq.out]; rintro e w8 ⟨rfl, hw8⟩; replace hw8 := hw8.symm; subst hw8))
              go_roundw
              case rel => exact ⟨R.out, trivial⟩
              case measure => simp [intOf]; omega
            · have R : Hid (InR l (s.take k) n (.int .i64 b) (.bool true) (.int .i64 ((j : Int) + 1))) := ⟨j + 1, by omega, by simp, .inr ⟨b, rfl, rfl, hb.out.1, hb.out.2.1, STEP.out (fun y => y ∉ s.take k → b ≤ y) hb.out.2.2 (fun _ => by omega)⟩⟩
              go_wp2_with (go_at_call 37; go_must ((with_reducible refine (HHAS.out x).mono ?_); rw [hq.out]; rintro e w8 ⟨rfl, hw8⟩; replace hw8 := hw8.symm; subst hw8))
              go_roundw
              case rel => exact ⟨R.out, trivial⟩
              case measure => simp [intOf]; omega
      · obtain rfl : j = n := by omega
        have hmemj : ∀ (p : Int → Prop), (∀ i, i < j → p (l.getD i 0)) → ∀ x ∈ l, p x := fun p h x hx => by
          obtain ⟨i, hi, e⟩ := List.getElem_of_mem hx
          have := h i (by rw [HN.out]; exact hi)
          rw [List.getD_eq_getElem?_getD, List.getElem?_eq_getElem hi] at this
          rw [← e]; exact this
        have HMJ := hide hmemj
        clear hmemj
        rcases hin with ⟨rfl, rfl, hall⟩ | ⟨b, rfl, rfl, hb⟩
        · have hks : k = s.length := HNL.out k (HMJ.out _ hall.out) hk
          have HF : Hid (RowV W oa oc s ∧ k = s.length) := ⟨by have := HO.out; rw [hks, List.take_length] at this; exact this, hks⟩
          go_wp2
          go_ret
          exact ⟨⟨oa, oc, by rw [HF.out.2]; rfl, HF.out.1, fun x e => by subst e; exact (World.ownsRow.lt hown.out x.block rfl).1⟩, hbel.out⟩
        · obtain ⟨hk2, hnx⟩ := HNX.out k b hb.out.1 hb.out.2.1 (HMJ.out (fun y => y ∉ s.take k → b ≤ y) hb.out.2.2)
          have HNXT := hide hnx
          have hrow := hown.out
          have hsz2 := hbel.out.size
          clear hnx
          go_wp2_with (at_builtin; go_loud (refine wpList_append_own _ rfl _ _ 23 rfl w.heap.size 3 i0 (.int .i64 0) 1 8 Try.underlying23 hi hz0 hz1 hz2 rfl (by decide) _ _ _ rfl (hrow.alloc _) ⟨W.heap.size, 0, none⟩ 1 1 [.int .i64 b] rfl rfl (one_new _ _ _) (by simp [Value.oneCell']) (by unfold maxLen; omega) (by omega) (by simp; omega) ?_); intro v1 w1 hown1 hgrow1 _; have HOWN1 := hide hown1; have HB1 := hide ((hbel.out.alloc hsz2 (.cells #[.int .i64 b] 3)).grown hgrow1 (by simp; omega) (fun q e => (World.ownsRow.lt hown.out q e).1)); clear hown1 hgrow1)
          go_roundw
          case rel => exact ⟨k + 1, by omega, by simp, by have := HOWN1.out; rw [← HNXT.out, List.map_append]; exact this, HB1.out⟩
          case measure => simp [intOf]; omega
theorem rof_any (a : Option Addr) (c : Nat) (l : List Int) (w : World) (h : RowV w a c l) (hm : l.length ≤ 10000) :
    Calls Try.prog 22 #[.slice a l.length c] w fun e w' => (∃ a' c', e = .returned (.slice a' (setL ltI l).length c') ∧ RowV w' a' c' (setL ltI l)) ∧ Below w.heap.size w w' := by
  refine (rof_fresh a c l w h hm).mono ?_
  rintro e w' ⟨⟨a', c', rfl, h1, _⟩, h2⟩
  exact ⟨⟨a', c', rfl, h1⟩, h2⟩
end Go.Proofs.Ytkjdjmcecjaolaa.Sets

/- The document's Cancelled and Step, over a struct of the picks, the step at which all is cancelled, how many steps there were, and how many picks were used. -/
namespace Go.Proofs.Ytkjdjmcecjaolaa.Pick
open Go.RowKit Go.Proofs.Ytkjdjmcecjaolaa.Dig Go.Proofs.Ytkjdjmcecjaolaa.Mem Go.Proofs.Ytkjdjmcecjaolaa.Dq Go.Proofs.Ytkjdjmcecjaolaa.Sets
set_option linter.unusedVariables false
set_option linter.unusedSimpArgs false

/-- A struct of the document's. -/
abbrev rv (a : Option Addr) (m p : Nat) (c : Int) (n u : Nat) : Array Value := #[.slice a m p, .int .i64 c, .int .i64 (n : Int), .int .i64 (u : Int)]
theorem _root_.Go.Proofs.Ytkjdjmcecjaolaa.Dq.RowI.v {w : World} {a : Option Addr} {c : Nat} {l : List Int} (h : RowI w a c l) : RowV w a c l := ⟨h.cap, h.rd, h.nil⟩
theorem _root_.Go.Proofs.Ytkjdjmcecjaolaa.Sets.RowV.i {w : World} {a : Option Addr} {c : Nat} {l : List Int} (h : RowV w a c l) : RowI w a c l := ⟨h.cap, h.rd, h.nil⟩
section
variable (w : World) (a : Option Addr) (m p : Nat) (c : Int) (n u : Nat)
theorem rover_any {d : Bool} (hd : over c n = d) : Calls Try.prog 49 #[.agg (rv a m p c n u)] w fun e w' => e = .returned (.bool d) ∧ Below w.heap.size w w' := by
  unfold rv
  subst hd
  unfold over
  by_cases h1 : 0 ≤ c
  · by_cases h2 : c ≤ (n : Int)
    · rw [decide_eq_true h1, decide_eq_true h2]
      go_enter Try.func49, Try.ntmps49
      go_wp2
      go_ret
      exact ⟨rfl, (Below.refl _ _).alloc (Nat.le_refl _) _⟩
    · rw [decide_eq_true h1, decide_eq_false h2]
      go_enter Try.func49, Try.ntmps49
      go_wp2
      go_ret
      exact ⟨rfl, (Below.refl _ _).alloc (Nat.le_refl _) _⟩
  · rw [decide_eq_false h1]
    go_enter Try.func49, Try.ntmps49
    go_wp2
    go_ret
    exact ⟨rfl, (Below.refl _ _).alloc (Nat.le_refl _) _⟩
set_option maxHeartbeats 1000000 in
theorem rstep_over (h : over c n = true) (r : Value) : Calls Try.prog 30 #[.agg (rv a m p c n u), r] w fun e w' => e = .returned (.tuple #[.agg (rv a m p c n u), .int .i64 0, .int .i64 8]) ∧ Below w.heap.size w w' := by
  have HR := hide (fun W => rover_any W a m p c n u h)
  unfold rv at *
  clear h
  go_enter Try.func30, Try.ntmps30
  go_wp2_with (go_at_call 49; go_must ((refine (Hid.out HR _).mono ?_); rintro e w3 ⟨rfl, hb3⟩; obtain ⟨i1, i2, hb, hz⟩ := two_boxes hb3; have I1 := hide i1; have I2 := hide i2; have HB := hide hb; obtain ⟨⟨p0, p1, p2, p3⟩, f0, f1, f2, f3⟩ := i1.four; obtain ⟨⟨q0, q1, q2, q3⟩, g0, g1, g2, g3⟩ := i2.four; clear i1 i2 hb hb3))
  refine bodyPost_ret (v := .tuple #[.agg #[.slice a m p, .int .i64 c, .int .i64 (n : Int), .int .i64 (u : Int)], .int .i64 0, .int .i64 8]) (by simp [results, Try.results30, go_sem, p0, p1, p2, p3, q0, q1, q2, q3, hz]) rfl ?_
  exact ⟨rfl, ((((HB.out.setCell (p := ⟨_, _, none⟩) (by simp) _).setCell (p := ⟨_, _, none⟩) (by simp) _).setCell (p := ⟨_, _, none⟩) (by simp) _).setCell (p := ⟨_, _, none⟩) (by simp) _)⟩
set_option maxHeartbeats 1000000 in
theorem rstep_none (h : over c n = false) (ra : Option Addr) (rc : Nat) (hr : RowI w ra rc []) : Calls Try.prog 30 #[.agg (rv a m p c n u), .slice ra 0 rc] w fun e w' => e = .returned (.tuple #[.agg (rv a m p c n u), .int .i64 0, .int .i64 10]) ∧ Below w.heap.size w w' := by
  have HR := hide (fun W => rover_any W a m p c n u h)
  have HO : Hid (∀ W, Below w.heap.size w W → Calls Try.prog 22 #[.slice ra 0 rc] W fun e w' => (∃ a' c', e = .returned (.slice a' 0 c') ∧ RowV w' a' c' [] ∧ ∀ x, a' = some x → W.heap.size ≤ x.block) ∧ Below W.heap.size W w') := hide (fun W hb => by
    have := rof_fresh ra rc [] W (hr.keep hb).v (by simp)
    rw [setL_nil] at this
    exact this)
  unfold rv at *
  clear h hr
  go_enter Try.func30, Try.ntmps30
  go_wp2_with (first | (go_at_call 49; go_must ((refine (Hid.out HR _).mono ?_); rintro e w3 ⟨rfl, hb3⟩; obtain ⟨i1, i2, hb, hz⟩ := two_boxes hb3; have I1 := hide i1; have I2 := hide i2; have HB := hide hb; clear i1 i2 hb hb3)) | (go_at_call 22; go_must ((refine (Hid.out HO _ HB.out).mono ?_); rintro e w4 ⟨⟨sa, sc, rfl, hr4, hf4⟩, hb4⟩; have HR4 := hide hr4; have HF4 := hide hf4; have I3 := hide (I1.out.below hb4); have I4 := hide (I2.out.below hb4); have HB4 := hide (HB.out.trans (hb4.mono HB.out.size)); obtain ⟨⟨p0, p1, p2, p3⟩, f0, f1, f2, f3⟩ := I3.out.four; obtain ⟨⟨q0, q1, q2, q3⟩, g0, g1, g2, g3⟩ := I4.out.four; clear hr4 hb4 hf4)))
  refine bodyPost_ret (v := .tuple #[.agg #[.slice a m p, .int .i64 c, .int .i64 (n : Int), .int .i64 (u : Int)], .int .i64 0, .int .i64 10]) (by simp [results, Try.results30, go_sem, p0, p1, p2, p3, q0, q1, q2, q3, hz]) rfl ?_
  exact ⟨rfl, ((((HB4.out.setCell (p := ⟨_, _, none⟩) (by simp) _).setCell (p := ⟨_, _, none⟩) (by simp) _).setCell (p := ⟨_, _, none⟩) (by simp) _).setCell (p := ⟨_, _, none⟩) (by simp) _)⟩
set_option maxHeartbeats 2000000 in
/-- No pick is left: the least one is told. -/
theorem rstep_least (h : over c n = false) (hn : n ≤ 1000000) {L : List Int} (hm : m = L.length) (hmn : m ≤ n) (hm2 : m ≤ 1000000) (ra : Option Addr) (rc : Nat) (l : List Int) (hl : l ≠ []) (hl2 : l.length ≤ 1000) {k : Nat} (hk : k = l.length) (hr : RowI w ra rc l) : Calls Try.prog 30 #[.agg (rv a m p c n m), .slice ra k rc] w fun e w' => e = .returned (.tuple #[.agg #[.slice a m p, .int .i64 c, .int .i64 ((n : Int) + 1), .int .i64 (m : Int)], .int .i64 (told L n l), .int .i64 0]) ∧ Below w.heap.size w w' := by
  have HR := hide (fun W => rover_any W a m p c n m h)
  have hs := setL_ne hl
  have HT0 : told L n l = (setL ltI l).getD 0 0 := by unfold told; rw [place_none (by omega)]
  obtain ⟨s, hs'⟩ : ∃ s, s = setL ltI l := ⟨_, rfl⟩
  obtain ⟨sl, hsl⟩ : ∃ sl, sl = s.length := ⟨_, rfl⟩
  obtain ⟨t, ht⟩ : ∃ t, t = s.getD 0 0 := ⟨_, rfl⟩
  rw [← hs', ← ht] at HT0
  rw [← hs', ← hsl] at hs
  have HT := hide HT0.symm
  have HO : Hid (∀ W, Below w.heap.size w W → Calls Try.prog 22 #[.slice ra k rc] W fun e w' => (∃ a' c', e = .returned (.slice a' sl c') ∧ RowV w' a' c' s ∧ ∀ x, a' = some x → W.heap.size ≤ x.block) ∧ Below W.heap.size W w') := hide (fun W hb => by
    have := rof_fresh ra rc l W (hr.keep hb).v (Nat.le_trans hl2 (by decide))
    rw [← hs', ← hsl, ← hk] at this
    exact this)
  have HAT : Hid (∀ W a' c', RowV W a' c' s → ∃ b off, a' = some ⟨b, off, none⟩ ∧ W.cell? ⟨b, off, none⟩ = some (.int .i64 t)) := hide (fun W a' c' q => by
    obtain ⟨b, off, e, hc⟩ := q.at (i := 0) (by omega)
    rw [← ht] at hc
    exact ⟨b, off, e, hc⟩)
  have g0 : ((sl : Int) == 0) = false := by simp; omega
  have g1 : (0 : Int) < (sl : Int) := by omega
  have g2 : decide ((m : Int) ≤ (m : Int)) = true := by simp
  have g3 : ¬ (m : Int) < (m : Int) := by omega
  unfold rv at *
  clear h hr hl hl2 hk hs' hsl ht HT0 hm hmn
  go_enter Try.func30, Try.ntmps30
  go_wp2_with (first | (go_at_call 49; go_must ((refine (Hid.out HR _).mono ?_); rintro e w3 ⟨rfl, hb3⟩; obtain ⟨i1, i2, hb, hz⟩ := two_boxes hb3; have I1 := hide i1; have I2 := hide i2; have HB := hide hb; clear i1 i2 hb hb3)) | (go_at_call 22; go_must ((refine (Hid.out HO _ HB.out).mono ?_); rintro e w4 ⟨⟨sa, sc, rfl, hr4, hf4⟩, hb4⟩; have HR4 := hide hr4; have HF4 := hide hf4; have I3 := hide (I1.out.below hb4); have I4 := hide (I2.out.below hb4); have HB4 := hide (HB.out.trans (hb4.mono HB.out.size)); obtain ⟨⟨p0, p1, p2, p3⟩, f0, f1, f2, f3⟩ := I3.out.four; obtain ⟨⟨q0, q1, q2, q3⟩, g0, g1, g2, g3⟩ := I4.out.four; clear hr4 hb4 hf4)))
  obtain ⟨sb, so, rfl, hcell⟩ := HAT.out _ _ _ HR4.out
  have hsb := lt_of_cell hcell
  have n0 := HF4.out _ rfl
  have n1 : ¬ sb = w.heap.size := by simp at n0; omega
  have n2 : ¬ sb = w.heap.size + 1 := by simp at n0; omega
  go_region
  all_goals
    go_wp2
    refine bodyPost_ret (v := .tuple #[.agg #[.slice a m p, .int .i64 c, .int .i64 ((n : Int) + 1), .int .i64 (m : Int)], .int .i64 t, .int .i64 0]) (by simp [results, Try.results30, go_sem, p0, p1, p2, p3, q0, q1, q2, q3, hz]) rfl ?_
    refine ⟨by rw [HT.out], ?_⟩
    repeat (first | with_reducible exact HB4.out | (with_reducible refine Below.setCell (p := ⟨_, _, none⟩) ?_ (by simp) _) | with_reducible apply Below.drew)
set_option maxHeartbeats 4000000 in
/-- A pick is used. -/
theorem rstep_pick (h : over c n = false) (hn : n ≤ 1000000) {L : List Int} (hm : m = L.length) (hmn : n < m) (hm2 : m ≤ 1000000) (hL : RowI w a p L) (ra : Option Addr) (rc : Nat) (l : List Int) (hl : l ≠ []) (hl2 : l.length ≤ 1000) {k : Nat} (hk : k = l.length) (hr : RowI w ra rc l) : Calls Try.prog 30 #[.agg (rv a m p c n n), .slice ra k rc] w fun e w' => e = .returned (.tuple #[.agg #[.slice a m p, .int .i64 c, .int .i64 ((n : Int) + 1), .int .i64 ((n : Int) + 1)], .int .i64 (told L n l), .int .i64 0]) ∧ Below w.heap.size w w' := by
  have HR := hide (fun W => rover_any W a m p c n n h)
  have hs := setL_ne hl
  have HT0 : told L n l = (setL ltI l).getD (place L n (setL ltI l).length) 0 := rfl
  have hj := place_lt L n hs
  have hji := place_int L n hs
  have htm := tmod_place (L.getD n 0) hs
  have hsl2 := setL_length (lt := ltI) l
  obtain ⟨s, hs'⟩ : ∃ s, s = setL ltI l := ⟨_, rfl⟩
  rw [← hs'] at HT0 hj hji htm hs hsl2
  obtain ⟨sl, hsl⟩ : ∃ sl, sl = s.length := ⟨_, rfl⟩
  rw [← hsl] at HT0 hj hji htm hs hsl2
  obtain ⟨j, hj'⟩ : ∃ j, j = place L n sl := ⟨_, rfl⟩
  rw [← hj'] at HT0 hj hji
  obtain ⟨t, ht⟩ : ∃ t, t = s.getD j 0 := ⟨_, rfl⟩
  rw [← ht] at HT0
  have HT := hide HT0.symm
  have HO : Hid (∀ W, Below w.heap.size w W → Calls Try.prog 22 #[.slice ra k rc] W fun e w' => (∃ a' c', e = .returned (.slice a' sl c') ∧ RowV w' a' c' s ∧ ∀ x, a' = some x → W.heap.size ≤ x.block) ∧ Below W.heap.size W w') := hide (fun W hb => by
    have := rof_fresh ra rc l W (hr.keep hb).v (Nat.le_trans hl2 (by decide))
    rw [← hs', ← hsl, ← hk] at this
    exact this)
  have HAT : Hid (∀ W a' c', RowV W a' c' s → ∃ b off, a' = some ⟨b, off, none⟩ ∧ W.cell? ⟨b, off + j, none⟩ = some (.int .i64 t)) := hide (fun W a' c' q => by
    obtain ⟨b, off, e, hc⟩ := q.at (i := j) (by omega)
    rw [← ht] at hc
    exact ⟨b, off, e, hc⟩)
  obtain ⟨lb, lo, rfl, hlc⟩ := hL.at (i := n) (by omega)
  have hwf := hL.wf (L.getD n 0) (by rw [List.getD_eq_getElem?_getD, List.getElem?_eq_getElem (by omega)]; exact List.getElem_mem _)
  obtain ⟨x, hx⟩ : ∃ x, x = L.getD n 0 := ⟨_, rfl⟩
  rw [← hx] at hlc hji htm hwf
  obtain ⟨q1', q2'⟩ := bounds_i64 hwf
  have hlb := lt_of_cell hlc
  have HLC : Hid (∀ W, Below w.heap.size w W → W.cell? ⟨lb, lo + n, none⟩ = some (.int .i64 x)) := hide (fun W hb => (hb.cell (p := ⟨lb, lo + n, none⟩) hlb).trans hlc)
  have hlbw : ¬ lb = w.heap.size := by simp at hlb; omega
  have hlbw1 : ¬ lb = w.heap.size + 1 := by simp at hlb; omega
  have z0 : ¬ ((sl : Int) = 0) := by omega
  have g0 : ((sl : Int) == 0) = false := by simp; omega
  have g1 : (n : Int) < (m : Int) := by omega
  have g2 : decide ((m : Int) ≤ (n : Int)) = false := by simp; omega
  have g3 : ¬ (m : Int) ≤ (n : Int) := by omega
  have a1 : -(sl : Int) < x.tmod (sl : Int) ∧ x.tmod (sl : Int) < (sl : Int) := by
    have h1 := Int.emod_nonneg x (show (sl : Int) ≠ 0 by omega)
    have h2 := Int.emod_lt_of_pos x (show (0 : Int) < sl by omega)
    rw [Int.tmod_eq_emod]
    split <;> omega
  obtain ⟨a2, a3⟩ := a1
  rw [← hji] at htm
  have hji2 : (j : Int) < (sl : Int) := by omega
  have w1 : IntKind.i64.wrap (x.tmod (sl : Int)) = x.tmod (sl : Int) := IntWalk.i64_in _ (by omega)
  have w2 : wrap64 (j : Int) = (j : Int) := by rw [← IntWalk.i64_left]; exact IntWalk.i64_in _ (by omega)
  unfold rv at *
  clear h hr hl hl2 hk hs' hsl ht HT0 hm hmn hx hwf hlc hj' hji hL hsl2
  by_cases hneg : x.tmod (sl : Int) < 0
  · rw [if_pos hneg] at htm
    go_enter Try.func30, Try.ntmps30
    go_wp2_with (first | (go_at_call 49; go_must ((refine (Hid.out HR _).mono ?_); rintro e w3 ⟨rfl, hb3⟩; obtain ⟨i1, i2, hb, hz⟩ := two_boxes hb3; have I1 := hide i1; have I2 := hide i2; have HB := hide hb; clear i1 i2 hb hb3)) | ((go_at_call 22; go_must ((refine (Hid.out HO _ HB.out).mono ?_); rintro e w4 ⟨⟨sa, sc, rfl, hr4, hf4⟩, hb4⟩; have HR4 := hide hr4; have HF4 := hide hf4; have I3 := hide (I1.out.below hb4); have I4 := hide (I2.out.below hb4); have HB4 := hide (HB.out.trans (hb4.mono HB.out.size)); obtain ⟨⟨p0, p1, p2, p3⟩, f0, f1, f2, f3⟩ := I3.out.four; obtain ⟨⟨q0, q1, q2, q3⟩, g0, g1, g2, g3⟩ := I4.out.four; clear hr4 hb4 hf4)); obtain ⟨sb, so, rfl, hcell⟩ := HAT.out _ _ _ HR4.out; have hlcell := HLC.out _ HB4.out; have n0 := HF4.out _ rfl; have n1 : ¬ sb = w.heap.size := (by simp at n0; omega); have n2 : ¬ sb = w.heap.size + 1 := (by simp at n0; omega); clear n0))
    go_region
    all_goals
      go_wp2
      refine bodyPost_ret (v := .tuple #[.agg #[.slice (some ⟨lb, lo, none⟩) m p, .int .i64 c, .int .i64 ((n : Int) + 1), .int .i64 ((n : Int) + 1)], .int .i64 t, .int .i64 0]) (by simp [results, Try.results30, go_sem, p0, p1, p2, p3, q0, q1, q2, q3, hz]) rfl ?_
      refine ⟨by rw [HT.out], ?_⟩
      repeat (first | with_reducible exact HB4.out | (with_reducible refine Below.setCell (p := ⟨_, _, none⟩) ?_ (by simp) _) | with_reducible apply Below.drew)
  · rw [if_neg hneg] at htm
    go_enter Try.func30, Try.ntmps30
    go_wp2_with (first | (go_at_call 49; go_must ((refine (Hid.out HR _).mono ?_); rintro e w3 ⟨rfl, hb3⟩; obtain ⟨i1, i2, hb, hz⟩ := two_boxes hb3; have I1 := hide i1; have I2 := hide i2; have HB := hide hb; clear i1 i2 hb hb3)) | ((go_at_call 22; go_must ((refine (Hid.out HO _ HB.out).mono ?_); rintro e w4 ⟨⟨sa, sc, rfl, hr4, hf4⟩, hb4⟩; have HR4 := hide hr4; have HF4 := hide hf4; have I3 := hide (I1.out.below hb4); have I4 := hide (I2.out.below hb4); have HB4 := hide (HB.out.trans (hb4.mono HB.out.size)); obtain ⟨⟨p0, p1, p2, p3⟩, f0, f1, f2, f3⟩ := I3.out.four; obtain ⟨⟨q0, q1, q2, q3⟩, g0, g1, g2, g3⟩ := I4.out.four; clear hr4 hb4 hf4)); obtain ⟨sb, so, rfl, hcell⟩ := HAT.out _ _ _ HR4.out; have hlcell := HLC.out _ HB4.out; have n0 := HF4.out _ rfl; have n1 : ¬ sb = w.heap.size := (by simp at n0; omega); have n2 : ¬ sb = w.heap.size + 1 := (by simp at n0; omega); clear n0))
    go_region
    all_goals
      go_wp2
      refine bodyPost_ret (v := .tuple #[.agg #[.slice (some ⟨lb, lo, none⟩) m p, .int .i64 c, .int .i64 ((n : Int) + 1), .int .i64 ((n : Int) + 1)], .int .i64 t, .int .i64 0]) (by simp [results, Try.results30, go_sem, p0, p1, p2, p3, q0, q1, q2, q3, hz]) rfl ?_
      refine ⟨by rw [HT.out], ?_⟩
      repeat (first | with_reducible exact HB4.out | (with_reducible refine Below.setCell (p := ⟨_, _, none⟩) ?_ (by simp) _) | with_reducible apply Below.drew)
end
end Go.Proofs.Ytkjdjmcecjaolaa.Pick

/- One step, by the program and by the document, whatever the state: what stepS says. -/
namespace Go.Proofs.Ytkjdjmcecjaolaa.Pick
open Go.RowKit Go.Proofs.Ytkjdjmcecjaolaa.Dig Go.Proofs.Ytkjdjmcecjaolaa.Mem Go.Proofs.Ytkjdjmcecjaolaa.Dq Go.Proofs.Ytkjdjmcecjaolaa.Thing Go.Proofs.Ytkjdjmcecjaolaa.Sets
set_option linter.unusedVariables false
set_option linter.unusedSimpArgs false

theorem only_drewN (S : Nat → Prop) (w : World) (q : Nat) : Only S w (w.drewN q) := (Only.refl _ _).drewN q
/-- Who is told, which error, how many steps there are behind it: named. -/
structure StepIs (L : List Int) (c : Int) (n : Nat) (l : List Int) (x e : Int) (n' : Nat) : Prop where
  is : stepS L c n l = (x, e, n')
theorem StepIs.ex (L : List Int) (c : Int) (n : Nat) (l : List Int) : ∃ x e n', StepIs L c n l x e n' := ⟨_, _, _, ⟨rfl⟩⟩
theorem StepIs.le {L : List Int} {c : Int} {n : Nat} {l : List Int} {x e : Int} {n' : Nat} (h : StepIs L c n l x e n') : n ≤ n' ∧ n' ≤ n + 1 := by
  have h := h.is
  unfold stepS at h
  split at h
  · simp at h; omega
  · split at h
    · simp at h; omega
    · simp at h; omega
section
variable {w : World} {b n : Nat} {pa : Option Addr} {pc : Nat} {L : List Int} {c : Int} {ra : Option Addr} {rc k : Nat} {l : List Int} {x e : Int} {n' : Nat}
theorem pstep_any (h : Scr w b pa pc L c n) (hn : n ≤ 1000000) (hk : k = l.length) (hk2 : l.length ≤ 1000000) (hr : RowI w ra rc l) (hs : StepIs L c n l x e n') :
    Calls Try.prog 25 #[.pointer (some ⟨b, 0, none⟩), .slice ra k rc] w fun r w' => r = .returned (.tuple #[.int .i64 x, .int .i64 e]) ∧ Scr w' b pa pc L c n' ∧ Only (fun k => k = b) w w' := by
  have hs := hs.is
  unfold stepS at hs
  cases ho : over c n with
  | true =>
    rw [if_pos ho] at hs
    simp at hs
    obtain ⟨rfl, rfl, rfl⟩ := hs
    refine (pstep_over h ho _).mono ?_
    rintro r w' ⟨rfl, q, rfl⟩
    exact ⟨rfl, h.keep (below_of_drewN q), only_drewN _ _ q⟩
  | false =>
    rw [if_neg (by simp [ho])] at hs
    by_cases hl : l = []
    · rw [if_pos hl] at hs
      simp at hs
      obtain ⟨rfl, rfl, rfl⟩ := hs
      subst hl
      subst hk
      refine (pstep_none h ho ra rc).mono ?_
      rintro r w' ⟨rfl, q, rfl⟩
      exact ⟨rfl, h.keep (below_of_drewN q), only_drewN _ _ q⟩
    · rw [if_neg hl] at hs
      simp at hs
      obtain ⟨rfl, rfl, rfl⟩ := hs
      exact pstep_ok h ho hn hl hk hk2 hr
theorem rstep_any (w : World) {a : Option Addr} {m p : Nat} (hn : n ≤ 1000000) (hm : m = L.length) (hm2 : m ≤ 1000000) (hL : RowI w a p L) (hk : k = l.length) (hk2 : l.length ≤ 1000) (hr : RowI w ra rc l) (hs : StepIs L c n l x e n') {u u' : Nat} (hu : u = min n m) (hu' : u' = min n' m) :
    Calls Try.prog 30 #[.agg (rv a m p c n u), .slice ra k rc] w fun r w' => r = .returned (.tuple #[.agg (rv a m p c n' u'), .int .i64 x, .int .i64 e]) ∧ Below w.heap.size w w' := by
  have hs := hs.is
  unfold stepS at hs
  cases ho : over c n with
  | true =>
    rw [if_pos ho] at hs
    simp at hs
    obtain ⟨rfl, rfl, rfl⟩ := hs
    obtain rfl : u' = u := by omega
    exact rstep_over w a m p c n u' ho _
  | false =>
    rw [if_neg (by simp [ho])] at hs
    by_cases hl : l = []
    · rw [if_pos hl] at hs
      simp at hs
      obtain ⟨rfl, rfl, rfl⟩ := hs
      obtain rfl : u' = u := by omega
      subst hl
      subst hk
      exact rstep_none w a m p c n u' ho ra rc hr
    · rw [if_neg hl] at hs
      simp at hs
      obtain ⟨rfl, rfl, rfl⟩ := hs
      by_cases hmn : n < m
      · have e1 : u = n := by omega
        have e2 : u' = n + 1 := by omega
        rw [e1, e2]
        have := rstep_pick w a m p c n ho hn hm hmn hm2 hL ra rc l hl hk2 hk hr
        simpa [rv] using this
      · have e1 : u = m := by omega
        have e2 : u' = m := by omega
        rw [e1, e2]
        have := rstep_least w a m p c n ho hn hm (by omega) hm2 ra rc l hl hk2 hk hr
        simpa [rv] using this
end
end Go.Proofs.Ytkjdjmcecjaolaa.Pick
