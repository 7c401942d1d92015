/- The set of some numbers: the program's Of. -/
import Derived.Test.YtjdcmeclmaljeaaSetCmp
import Derived.Test.YtjdcmeclmaljeaaSetRow
import Derived.Deep.DeepMust
namespace Go.Proofs.Ytjdcmeclmaljeaa.Sets
open Go.RowKit Go.Proofs.Ytjdcmeclmaljeaa.Dig Go.Proofs.Ytjdcmeclmaljeaa.Mem Go.Sort
set_option linter.unusedVariables false
set_option linter.unusedSimpArgs false

def encN (x : Int) : Value := .int .i64 x
theorem Try.infoSetInt : (Try.prog.info? 3).map (fun i => (i.zero, i.size, i.bytes)) = some (some (.int .i64 0), 1, 8) := by kernel_rfl
theorem mk_ints (n : Nat) (hn : n ≤ 1000000) : ∀ w : World, (Instr.makeSlice 22 (.int .i64 (n : Int)) (.int .i64 (n : Int))).run Try.prog w = .ok (.slice (some ⟨w.heap.size, 0, none⟩) n n) (w.alloc (.cells (List.replicate n (Value.int .i64 0)).toArray 3)) := by
  intro w
  obtain ⟨i0, hi, hz0, hz1, hz2⟩ := info_parts Try.infoSetInt
  have hr := run_makeSlice (P := Try.prog) w 22 3 i0 (.int .i64 0) Try.underlying22 hi hz0 .i64 .i64 (n : Int) (n : Int) (by omega) (Int.le_refl _) (by rw [hz1]; simp; omega) (by rw [hz2]; omega) (by omega)
  simp only [Int.toNat_natCast] at hr
  rw [hz1, Nat.mul_one, madeCells_one _ rfl] at hr
  exact hr
/-- A block that holds a list reads it. -/
theorem is_rowv {w : World} {b c : Nat} {l : List Int} {cs : Array Value} (h : Is w b cs) (hc : ∀ i, i < l.length → cs[i]? = some (.int .i64 (l.getD i 0))) (hl : l.length ≤ c) (hm : l.length ≤ 1000000000000) (hw : ∀ n ∈ l, (Lit.int .i64 n).wf = true) : RowV w (some ⟨b, 0, none⟩) c l :=
  ⟨hl, ⟨hm, fun i hi => ⟨b, 0, rfl, h.cell _ (by rw [Nat.zero_add]; exact hc i hi), by
    show (Lit.int .i64 (l.getD i 0)).wf = true
    rw [List.getD_eq_getElem?_getD, List.getElem?_eq_getElem hi]
    exact hw _ (List.getElem_mem hi)⟩⟩, fun e => by cases e⟩
theorem sort_at (b n cap : Nat) (l : List Int) (w : World) (h : Is w b (l.toArray.map encN)) (hn : l.length = n) (hm : n ≤ 1000000) :
    Calls Try.prog 24 #[.slice (some ⟨b, 0, none⟩) n cap] w fun e w' => e = .returned (.tuple #[]) ∧ Is w' b ((l.mergeSort fun x y => decide (x ≤ y)).toArray.map encN) ∧ Only (fun k => k = b) w w' := by
  subst hn
  refine (Try.slices_Sort_int b 0 cap l w (holds_is h) h.lt (by omega)).mono ?_
  rintro e w' ⟨rfl, n, os, rfl⟩
  exact ⟨rfl, is_grow (is_putRow h (by simp)), (only_putRow (S := fun k => k = b) rfl).trans only_grow⟩
theorem compact_at (b n cap : Nat) (l : List Int) (w : World) (h : Is w b (l.toArray.map encN)) (hn : l.length = n) (hm : n ≤ 1000000) (hc : n ≤ cap) :
    Calls Try.prog 25 #[.slice (some ⟨b, 0, none⟩) n cap] w fun e w' => e = .returned (.slice (some ⟨b, 0, none⟩) (Lib.compact l).length cap) ∧ (∃ r : List Int, Is w' b ((Lib.compact l ++ r).toArray.map encN)) ∧ Only (fun k => k = b) w w' := by
  subst hn
  have hl : (Lib.compact l).length ≤ l.length := compact_le l
  refine (Try.slices_Compact_int b 0 cap l w (holds_is h) (by omega) hc).mono ?_
  rintro e w' ⟨rfl, q, rfl⟩
  exact ⟨rfl, ⟨_, is_putRow h (by simp; omega)⟩, only_putRow (S := fun k => k = b) rfl⟩
def FillR (w : World) (l : List Int) (n : Nat) (i : Value) (wr : World) : Prop :=
  ∃ k : Nat, k ≤ n ∧ i = .int .i64 (k : Int) ∧ Hid (Is wr (w.heap.size + 1) (fillZ encN (.int .i64 0) l n k)) ∧ Hid (Is wr w.heap.size #[.slice none 0 0]) ∧ Hid (Below w.heap.size w wr)
/-- A set as a value. -/
def SetV (w : World) (v : Value) (s : List Int) : Prop := ∃ a c, v = .agg #[.slice a s.length c] ∧ RowV w a c s
theorem SetV.keep {w w' : World} {v : Value} {s : List Int} (h : SetV w v s) (hb : Below w.heap.size w w') : SetV w' v s := by
  obtain ⟨a, c, e, h⟩ := h
  exact ⟨a, c, e, h.keep hb⟩
theorem RowV.wf {w : World} {a : Option Addr} {c : Nat} {l : List Int} (h : RowV w a c l) : ∀ n ∈ l, (Lit.int .i64 n).wf = true := fun n hn => by
  obtain ⟨i, hi, e⟩ := List.getElem_of_mem hn
  obtain ⟨_, _, _, _, hw⟩ := h.rd.2 i hi
  have : (fun i => l.getD i 0) i = n := by show l.getD i 0 = n; rw [List.getD_eq_getElem?_getD, List.getElem?_eq_getElem hi]; exact e
  rw [this] at hw
  exact hw
/-- A set whose things, if there are any, lie in a block that is not older than B. -/
def FreshV (B : Nat) (v : Value) : Prop := ∀ b o sp n c, v = .agg #[.slice (some ⟨b, o, sp⟩) n c] → 0 < n → B ≤ b
theorem RowV.put {w : World} {a : Option Addr} {c B : Nat} {l : List Int} (h : RowV w a c l) (hB : ∀ b o sp, a = some ⟨b, o, sp⟩ → 0 < l.length → b ≠ B) (u : Value) : RowV (w.setCell ⟨B, 0, none⟩ u) a c l :=
  ⟨h.cap, h.rd.only' (S := fun k => k = B) ((Only.refl _ _).put 0 u) (fun hl x e => hB x.block x.off x.spot (by rw [e]) hl), h.nil⟩
theorem of_done {w w1 : World} {l : List Int} {n : Nat} (hw : ∀ x ∈ l, (Lit.int .i64 x).wf = true) (hn : l.length = n) (hm : n ≤ 1000000) {s : List Int} (hs : s = setL ltI l) {r : List Int} (h : Is w1 (w.heap.size + 1) ((s ++ r).toArray.map encN)) : RowV w1 (some ⟨w.heap.size + 1, 0, none⟩) n s := by
  have h1 := setL_length (lt := ltI) l
  rw [← hs] at h1
  refine is_rowv h (fun i hi => ?_) (by omega) (by omega) (fun x hx => hw x (by rw [hs] at hx; exact (mem_setL totI l x).1 hx))
  have hi2 : i < s.length + r.length := by omega
  simp [hi, List.getElem?_append_left, encN]
set_option maxHeartbeats 1000000 in
/-- The program's Of. -/
theorem of_any (a : Option Addr) (c : Nat) (l : List Int) (w : World) (h : RowV w a c l) (hm : l.length ≤ 1000000) :
    Calls Try.prog 18 #[.slice a l.length c] w fun e w' => ∃ v, e = .returned v ∧ SetV w' v (setL ltI l) ∧ FreshV w.heap.size v ∧ Below w.heap.size w w' := by
  have HW := hide h.wf
  have HA := hide h
  obtain ⟨n, hn⟩ : ∃ n, l.length = n := ⟨_, rfl⟩
  rw [hn] at hm ⊢
  have hmk := mk_ints n hm
  have HN : Hid (l.length = n) := hn
  have HM : Hid (n ≤ 1000000) := hm
  have R0 : ∀ (w1 : World), Hid (w1 = (w.alloc (.cells #[.slice none 0 0] 47)).alloc (.cells (List.replicate n (Value.int .i64 0)).toArray 3)) → Hid (FillR w l n (.int .i64 0) w1) := by
    intro w1 e
    have e := e.out
    subst e
    exact ⟨0, by omega, rfl, by rw [fillZ_zero]; exact Is.made _ _ _ (by simp), (Is.made _ _ _ rfl).alloc _, ((Below.refl _ _).alloc (Nat.le_refl _) _).alloc (by simp) _⟩
  clear hn h
  go_enter Try.func18, Try.ntmps18
  go_wp2
  go_loopw [12] (fun i wr => FillR w l n i wr) (fun i _ => n - (intOf i).toNat)
  case atStart => exact (R0 _ rfl).out
  case round =>
    obtain ⟨k, hk, rfl, hI, hC, hB⟩ := hrel
    by_cases hlt : k < n
    · obtain ⟨b1, o1, rfl, hc1⟩ := (HA.out.keep (hB.out.mono (Nat.le_refl _))).at (show k < l.length by rw [HN.out]; exact hlt)
      have hz : l[k]? = some (l.getD k 0) := by rw [List.getD_eq_getElem?_getD, List.getElem?_eq_getElem (by rw [HN.out]; exact hlt)]; rfl
      have hwx := HW.out (l.getD k 0) (List.mem_of_getElem? hz)
      obtain ⟨x, hx⟩ : ∃ x, x = l.getD k 0 := ⟨_, rfl⟩
      rw [← hx] at hc1 hz hwx
      have HZ := hide hz
      have hb1 := bounds_i64 hwx
      obtain ⟨q1, q2⟩ := hb1
      have hcell := hI.out.cell k (fillZ_get HN.out hlt)
      have hfz := hI.out.frozen k
      clear hx hz hwx
      go_wp2
      go_roundw
      case rel => exact ⟨k + 1, by omega, by go_num, by rw [← fillZ_set HN.out hlt HZ.out]; exact hI.out.set k _, hC.out.other (by simp) _, hB.out.setCell (p := ⟨w.heap.size + 1, k, none⟩) (by simp) _⟩
      case measure => simp [intOf]; omega
    · obtain rfl : k = n := by omega
      have HI1 : Hid (Is wr (w.heap.size + 1) (l.toArray.map encN)) := by have := hI.out; rw [fillZ_all HN.out] at this; exact this
      have hMl : (l.mergeSort fun x y => decide (x ≤ y)).length = k := by rw [List.length_mergeSort]; exact HN.out
      have HS : Hid (Lib.compact (l.mergeSort fun x y => decide (x ≤ y)) = setL ltI l) := sort_set_int l
      have HML := hide hMl
      clear hI hMl hmk R0
      go_wp2_with (first | (go_at_call 24; go_must ((with_reducible refine (sort_at (w.heap.size + 1) k k l _ HI1.out HN.out HM.out).mono ?_); rintro e w2 ⟨rfl, hs2, ho2⟩; have HI2 := hide hs2; have HC2 := hide (hC.out.keep ho2 (by omega)); have HB2 := hide (hB.out.only ho2 (fun i q => by omega) hB.out.size); clear hs2 ho2 HI1 hC hB)) | (go_at_call 25; go_must ((with_reducible refine (compact_at (w.heap.size + 1) k k _ _ HI2.out HML.out HM.out (Nat.le_refl _)).mono ?_); rintro e w3 ⟨rfl, ⟨r3, hs3⟩, ho3⟩; have HI3 := hide hs3; have HC3 := hide (HC2.out.keep ho3 (by omega)); have HB3 := hide (HB2.out.only ho3 (fun i q => by omega) HB2.out.size); have hc3 : w3.cell? ⟨w.heap.size, 0, none⟩ = some (.slice none 0 0) := HC3.out.cell 0 rfl; have hf3 := HC3.out.frozen 0; clear hs3 ho3 HI2 HC2 HB2)))
      obtain ⟨S, hS⟩ : ∃ S, S = Lib.compact (l.mergeSort fun x y => decide (x ≤ y)) := ⟨_, rfl⟩
      have hS2 : S = setL ltI l := hS.trans HS.out
      have hI4 := HI3.out
      rw [← hS] at hI4
      have hV := of_done (w := w) HW.out HN.out HM.out hS2 (hI4.other (p := ⟨w.heap.size, 0, none⟩) (by simp) (.slice (some ⟨w.heap.size + 1, 0, none⟩) S.length k))
      have hb4 := HB3.out.setCell (p := ⟨w.heap.size, 0, none⟩) (Nat.le_refl _) (.slice (some ⟨w.heap.size + 1, 0, none⟩) S.length k)
      have hc4 : (w3.setCell ⟨w.heap.size, 0, none⟩ (.slice (some ⟨w.heap.size + 1, 0, none⟩) S.length k)).cell? ⟨w.heap.size, 0, none⟩ = some (.slice (some ⟨w.heap.size + 1, 0, none⟩) S.length k) := (HC3.out.set 0 _).cell 0 rfl
      rw [← hS]
      exact bodyPost_ret (v := .agg #[.slice (some ⟨w.heap.size + 1, 0, none⟩) S.length k]) (by simp [results, Try.results18, go_sem, hc4]) rfl ⟨_, rfl, ⟨_, _, by rw [← hS2], by rw [← hS2]; exact hV⟩, fun b o sp n c e _ => by injection e with e; injection e with e; simp at e; omega, hb4⟩
end Go.Proofs.Ytjdcmeclmaljeaa.Sets
