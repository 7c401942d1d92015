/- What the document's op leaves in memory: an operation behind those of the last transaction, in rows of the call's own. -/
import Derived.Test.YtkdggnfjefgonaaHistRefOp
namespace Go.Proofs.Ytkdggnfjefgonaa.Hist
open Go.RowKit Go.Proofs.Ytkdggnfjefgonaa.Dig Go.Proofs.Ytkdggnfjefgonaa.Mem
set_option linter.unusedVariables false
set_option linter.unusedSimpArgs false

theorem AllAt.set {α : Type} {R : List Value → α → Prop} {cs : List (List Value)} {xs : List α} (h : AllAt R cs xs) {c : List Value} {x : α} (i : Nat) (hr : R c x) : AllAt R (cs.set i c) (xs.set i x) := by
  refine ⟨by rw [List.length_set, List.length_set, h.1], fun j d y h1 h2 => ?_⟩
  rw [List.getElem?_set] at h1 h2
  by_cases e : i = j
  · rw [if_pos e] at h1 h2
    split at h1
    · split at h2
      · cases h1; cases h2; exact hr
      · cases h2
    · cases h1
  · rw [if_neg e] at h1 h2
    exact h.2 j d y h1 h2
theorem addOp_set {ts : List TxnM} {m : Nat} (h : ts.length = m + 1) (o : OpM) : addOp ts o = ts.set m ⟨(ts[m]'(by omega)).id, (ts[m]'(by omega)).ab, (ts[m]'(by omega)).ops ++ [o]⟩ := by
  have hne : ts ≠ [] := fun q => by rw [q] at h; simp at h
  obtain ⟨pre, last, rfl⟩ : ∃ us t, ts = us ++ [t] := ⟨_, _, (List.dropLast_concat_getLast hne).symm⟩
  have hm : pre.length = m := by simpa using h
  subst hm
  rw [addOp_snoc]
  simp
/-- The copy of the transactions, and the last one's cells. -/
theorem copy_last {w : World} {F : Nat → Prop} {B lg cap m : Nat} {rows : List (List Value)} {ts : List TxnM} (hown : OwnC 44 3 B w (.slice (some ⟨lg, 0, none⟩) (m + 1) cap) rows) (hall : AllAt (TxnAt F w) rows ts) (hm : ts.length = m + 1) :
    ∃ oa ocap ocs, ∃ (hr : m < rows.length) (ht : m < ts.length), rows[m] = [.int .i64 ts[m].id, .bool ts[m].ab, .slice oa ts[m].ops.length ocap] ∧ w.cell? ⟨lg, m * 3 + 2, none⟩ = some (.slice oa ts[m].ops.length ocap) ∧
      RowAt F w 4 (.slice oa ts[m].ops.length ocap) ocs ∧ AllAt (OpAt F w) ocs ts[m].ops ∧ (Lit.int .i64 ts[m].id).wf = true := by
  have ht : m < ts.length := by omega
  obtain ⟨hr, v, e, ⟨ocs, hrow, ho⟩, hw⟩ := hall.get ht
  obtain ⟨oa, ocap, rfl, _, _⟩ := hrow.shape
  rw [ho.1] at hrow e
  refine ⟨oa, ocap, ocs, hr, ht, e, OwnC.cell hown hr (by rw [e]; rfl), hrow, ho, hw⟩
theorem op_one {F : Nat → Prop} {w : World} {cs : List (List Value)} {os : List OpM} (h : AllAt (OpAt F w) cs os) : ∀ c ∈ cs, ∀ u ∈ c, u.oneCell' = true := by
  intro c hc u hu
  obtain ⟨i, hi, rfl⟩ := List.mem_iff_getElem.1 hc
  obtain ⟨_, v, e, hv, _⟩ := h.get (i := i) (by rw [← h.1]; exact hi)
  obtain ⟨a, cap, rfl, _⟩ := hv.shape
  rw [e] at hu
  simp at hu
  rcases hu with rfl | rfl | rfl | rfl <;> rfl
theorem ref_op_end {w w6 w7 w9 : World} {F : Nat → Prop} {tv : Value} {ts : List TxnM} {a : Option Addr} {len m : Nat} {z : Nat → Int} {rows ocs : List (List Value)} {o : OpM} {lv : Value} {lg cap g9 c9 : Nat} {oa : Option Addr} {ocap : Nat}
    (hst : OpSt w F tv ts a len z w7) (hown : OwnC 44 3 (w.heap.size + 2) w7 (.slice (some ⟨lg, 0, none⟩) (m + 1) cap) rows) (hall : AllAt (TxnAt (fun b => F b ∧ b < w.heap.size) w7) rows ts) (hm : ts.length = m + 1)
    (hlg : w6.heap.size ≤ lg) (hs6 : w.heap.size + 1 < w6.heap.size) (h67 : Below w6.heap.size w6 w7) (hi : IntsAt (fun b => w.heap.size + 1 < b ∧ b < w6.heap.size) w6 lv o.list) (hk : (Lit.int .i64 o.key).wf = true) (hv : (Lit.int .i64 o.value).wf = true)
    (hrm : ∃ (hr : m < rows.length) (ht : m < ts.length), rows[m] = [.int .i64 ts[m].id, .bool ts[m].ab, .slice oa ts[m].ops.length ocap] ∧ AllAt (OpAt (fun b => F b ∧ b < w.heap.size) w7) ocs ts[m].ops ∧ (Lit.int .i64 ts[m].id).wf = true)
    (h79 : Below w7.heap.size w7 w9) (hown9 : OwnC 41 4 w7.heap.size w9 (.slice (some ⟨g9, 0, none⟩) (ocs.length + 1) c9) (ocs ++ [[.bool o.read, .int .i64 o.key, .int .i64 o.value, lv]])) :
    TxnsAt (fun b => F b ∨ w.heap.size ≤ b) (((w9.setCell ⟨lg, m * 3 + 2, none⟩ (.slice (some ⟨g9, 0, none⟩) (ocs.length + 1) c9)).setCell ⟨w.heap.size, 0, none⟩ (.slice (some ⟨lg, 0, none⟩) (m + 1) cap)).setCell ⟨w.heap.size + 1, 0, none⟩ (.slice (some ⟨lg, 0, none⟩) (m + 1) cap)) (.slice (some ⟨lg, 0, none⟩) (m + 1) cap) (addOp ts o) ∧
    Below w.heap.size w (((w9.setCell ⟨lg, m * 3 + 2, none⟩ (.slice (some ⟨g9, 0, none⟩) (ocs.length + 1) c9)).setCell ⟨w.heap.size, 0, none⟩ (.slice (some ⟨lg, 0, none⟩) (m + 1) cap)).setCell ⟨w.heap.size + 1, 0, none⟩ (.slice (some ⟨lg, 0, none⟩) (m + 1) cap)) ∧
    (((w9.setCell ⟨lg, m * 3 + 2, none⟩ (.slice (some ⟨g9, 0, none⟩) (ocs.length + 1) c9)).setCell ⟨w.heap.size, 0, none⟩ (.slice (some ⟨lg, 0, none⟩) (m + 1) cap)).setCell ⟨w.heap.size + 1, 0, none⟩ (.slice (some ⟨lg, 0, none⟩) (m + 1) cap)).cell? ⟨w.heap.size + 1, 0, none⟩ = some (.slice (some ⟨lg, 0, none⟩) (m + 1) cap) := by
  obtain ⟨hr, ht, hrow, hops, hid⟩ := hrm
  have hs67 := h67.size
  have hs79 := h79.size
  have hlg7 : lg < w7.heap.size := (hown.lt lg rfl).2
  have hO1 : Only (fun k => k = lg) w9 (w9.setCell ⟨lg, m * 3 + 2, none⟩ (.slice (some ⟨g9, 0, none⟩) (ocs.length + 1) c9)) := (Only.refl _ _).put _ _
  have hO2 : ∀ wx : World, Only (fun k => k = w.heap.size) wx (wx.setCell ⟨w.heap.size, 0, none⟩ (.slice (some ⟨lg, 0, none⟩) (m + 1) cap)) := fun wx => (Only.refl _ _).put 0 _
  have hO3 : ∀ wx : World, Only (fun k => k = w.heap.size + 1) wx (wx.setCell ⟨w.heap.size + 1, 0, none⟩ (.slice (some ⟨lg, 0, none⟩) (m + 1) cap)) := fun wx => (Only.refl _ _).put 0 _
  have hset := (hown.keep (Only.of_below (S := fun _ => False) h79) (fun _ _ q => q)).set (i := m) hr (j := 2) (by omega) (.slice (some ⟨g9, 0, none⟩) (ocs.length + 1) c9)
  rw [hrow] at hset
  have hO : Only (fun k => k = lg ∨ k = w.heap.size ∨ k = w.heap.size + 1) w9 _ := ((hO1.mono fun _ q => .inl q).trans ((hO2 _).mono fun _ q => .inr (.inl q))).trans ((hO3 _).mono fun _ q => .inr (.inr q))
  have hO23 : Only (fun k => k = w.heap.size ∨ k = w.heap.size + 1) (w9.setCell ⟨lg, m * 3 + 2, none⟩ (.slice (some ⟨g9, 0, none⟩) (ocs.length + 1) c9)) _ := ((hO2 _).mono fun _ q => .inl q).trans ((hO3 _).mono fun _ q => .inr q)
  have hF7 : ∀ {S : Nat → Prop}, Only (fun _ => False) w7 w9 := Only.of_below h79
  refine ⟨⟨_, (hset.row.only hO23 (fun b q => by have := q.1; omega)).mono (fun b q => .inr (by have := q.1; omega)), ?_⟩, ?_, ?_⟩
  · rw [addOp_set hm]
    refine AllAt.set (hall.mono fun c x q => ((q.only (hF7 (S := fun _ => False)) (fun _ _ r => r)).only hO (fun b q => by omega)).mono fun b q => .inl q.1) m ⟨_, rfl, ⟨_, (hown9.row.only hO (fun b q => by have := q.1; omega)).mono (fun b q => .inr (by have := q.1; omega)), ?_⟩, hid⟩
    refine AllAt.append (hops.mono fun c x q => ((q.only (hF7 (S := fun _ => False)) (fun _ _ r => r)).only hO (fun b q => by omega)).mono fun b q => .inl q.1) (AllAt.one ⟨lv, rfl, ?_, hk, hv⟩)
    exact (((hi.keep h67).only (hF7 (S := fun _ => False)) (fun _ _ r => r)).only hO (fun b q => by omega)).mono fun b q => .inr (by omega)
  · exact (hst.below.trans (h79.mono hst.below.size)).only hO (fun i q => by omega) (by have := hst.below.size; omega)
  · have hj : Is w9 (w.heap.size + 1) #[.slice none 0 0] := hst.hj.below h79
    exact Is.cell (cs := #[.slice (some ⟨lg, 0, none⟩) (m + 1) cap]) (((hj.keep hO1 (by omega)).keep (hO2 _) (by omega)).set 0 _) 0 rfl
end Go.Proofs.Ytkdggnfjefgonaa.Hist
