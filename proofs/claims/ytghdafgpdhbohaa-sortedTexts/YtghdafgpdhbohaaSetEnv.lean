/- What a statement knows while it goes on: its variables, the sets and the rows that it has been handed; and what each call adds. -/
import Derived.Test.YtghdafgpdhbohaaSetWith
import Derived.Test.YtghdafgpdhbohaaSetAnd
namespace Go.Proofs.Ytghdafgpdhbohaa.Sets
open Go.RowKit Go.Proofs.Ytghdafgpdhbohaa.Dig Go.Proofs.Ytghdafgpdhbohaa.Mem
set_option linter.unusedVariables false
set_option linter.unusedSimpArgs false

abbrev SetT := Option Addr × Nat × List Int
def setVal (p : SetT) : Value := .agg #[.slice p.1 p.2.2.length p.2.1]
structure Env (w : World) (cs : List (Nat × Value)) (sets rows : List SetT) (wx : World) : Prop where
  below : Below w.heap.size w wx
  cells : ∀ p ∈ cs, Is wx p.1 #[p.2]
  sets : ∀ p ∈ sets, RowV wx p.1 p.2.1 p.2.2 ∧ Rising ltI p.2.2 ∧ p.2.2.length ≤ 100000
  rows : ∀ p ∈ rows, RowV wx p.1 p.2.1 p.2.2 ∧ p.2.2.length ≤ 100000
section
variable {w wx wy : World} {cs : List (Nat × Value)} {sets rows : List SetT} {v0 : Value}
theorem Env.start (w : World) : Env w [] [] [] w := ⟨Below.refl _ _, by simp, by simp, by simp⟩
theorem Env.keep (h : Env w cs sets rows wx) (hb : Below wx.heap.size wx wy) : Env w cs sets rows wy :=
  ⟨h.below.trans (hb.mono h.below.size), fun p hp => (h.cells p hp).below hb, fun p hp => ⟨(h.sets p hp).1.keep hb, (h.sets p hp).2⟩, fun p hp => ⟨(h.rows p hp).1.keep hb, (h.rows p hp).2⟩⟩
theorem Env.set (h : Env w cs sets rows wx) {p : SetT} (hr : RowV wx p.1 p.2.1 p.2.2) (hs : Rising ltI p.2.2) (hl : p.2.2.length ≤ 100000) : Env w cs (p :: sets) rows wx :=
  ⟨h.below, h.cells, fun q hq => (List.mem_cons.1 hq).elim (fun e => by subst e; exact ⟨hr, hs, hl⟩) (h.sets q), h.rows⟩
theorem Env.row (h : Env w cs sets rows wx) {p : SetT} (hr : RowV wx p.1 p.2.1 p.2.2) (hl : p.2.2.length ≤ 100000) : Env w cs sets (p :: rows) wx :=
  ⟨h.below, h.cells, h.sets, fun q hq => (List.mem_cons.1 hq).elim (fun e => by subst e; exact ⟨hr, hl⟩) (h.rows q)⟩
theorem Env.alloc (h : Env w cs sets rows wx) (o : Obj) : Env w cs sets rows (wx.alloc o) := h.keep ((Below.refl _ _).alloc (Nat.le_refl _) _)
theorem Env.drew (h : Env w cs sets rows wx) : Env w cs sets rows wx.drew := h.keep (Below.refl _ _).drew
theorem Env.box (h : Env w cs sets rows wx) (v : Value) (T : TypeId) {b : Nat} (hb : b = wx.heap.size) : Env w ((b, v) :: cs) sets rows (wx.alloc (.cells #[v] T)) := by
  have h' := h.alloc (.cells #[v] T)
  refine ⟨h'.below, fun p hp => ?_, h'.sets, h'.rows⟩
  rcases List.mem_cons.1 hp with e | q
  · subst e
    exact Is.made wx #[v] T hb
  · exact h'.cells p q
/-- A row that the statement lays itself. -/
theorem Env.lay (h : Env w cs sets rows wx) (l : List Int) (T : TypeId) {b n : Nat} (hb : b = wx.heap.size) (hn : n = l.length) (hl : n ≤ 100) (hw : ∀ x ∈ l, (Lit.int .i64 x).wf = true) : Env w cs sets ((some ⟨b, 0, none⟩, n, l) :: rows) (wx.alloc (.cells (l.map (Value.int .i64)).toArray T)) := by
  subst hn
  refine (h.alloc _).row ?_ (by show l.length ≤ _; omega)
  exact is_rowv (Is.made wx _ T hb) (fun i hi => by
    rw [List.getElem?_toArray, List.getElem?_map, List.getElem?_eq_getElem hi]
    simp [List.getD_eq_getElem?_getD, List.getElem?_eq_getElem hi]) (Nat.le_refl _) (by show l.length ≤ _; omega) hw
/-- A store into a variable: what is kept beside it lies in other blocks. -/
theorem Env.put {cs' : List (Nat × Value)} {sets' rows' : List SetT} (h : Env w cs sets rows wx) (b : Nat) (v : Value) (hb : w.heap.size ≤ b) (hv : (b, v0) ∈ cs) (hc : ∀ p ∈ cs', p = (b, v) ∨ (p ∈ cs ∧ p.1 ≠ b)) (hs : ∀ p ∈ sets', p ∈ sets ∧ ∀ q o sp, p.1 = some ⟨q, o, sp⟩ → 0 < p.2.2.length → q ≠ b) (hr : ∀ p ∈ rows', p ∈ rows ∧ ∀ q o sp, p.1 = some ⟨q, o, sp⟩ → 0 < p.2.2.length → q ≠ b) : Env w cs' sets' rows' (wx.setCell ⟨b, 0, none⟩ v) := by
  refine ⟨h.below.setCell (p := ⟨b, 0, none⟩) hb v, fun p hp => ?_, fun p hp => ⟨((h.sets p (hs p hp).1).1).put (hs p hp).2 v, (h.sets p (hs p hp).1).2⟩, fun p hp => ⟨((h.rows p (hr p hp).1).1).put (hr p hp).2 v, (h.rows p (hr p hp).1).2⟩⟩
  rcases hc p hp with e | ⟨q, hq⟩
  · subst e
    exact (h.cells _ hv).set 0 v
  · exact (h.cells p q).other (Ne.symm hq) v
theorem Env.sub {cs' : List (Nat × Value)} {sets' rows' : List SetT} (h : Env w cs sets rows wx) (hc : ∀ p ∈ cs', p ∈ cs) (hs : ∀ p ∈ sets', p ∈ sets) (hr : ∀ p ∈ rows', p ∈ rows) : Env w cs' sets' rows' wx :=
  ⟨h.below, fun p hp => h.cells p (hc p hp), fun p hp => h.sets p (hs p hp), fun p hp => h.rows p (hr p hp)⟩
theorem Env.lt (h : Env w cs sets rows wx) {b : Nat} {v : Value} (hp : (b, v) ∈ cs) : b < wx.heap.size := (h.cells _ hp).lt
theorem Env.frozen (h : Env w cs sets rows wx) {b : Nat} {v : Value} (hp : (b, v) ∈ cs) : wx.frozen? ⟨b, 0, none⟩ = false := (h.cells _ hp).frozen 0
theorem Env.elem (h : Env w cs sets rows wx) {a : Option Addr} {c : Nat} {l : List Int} (hp : (a, c, l) ∈ rows) {i : Nat} (hi : i < l.length) : ∃ b off, a = some ⟨b, off, none⟩ ∧ wx.cell? ⟨b, off + i, none⟩ = some (.int .i64 (l.getD i 0)) ∧ (Lit.int .i64 (l.getD i 0)).wf = true := by
  obtain ⟨b, off, e, hc, hw⟩ := (h.rows _ hp).1.rd.2 i hi
  exact ⟨b, off, e, hc, hw⟩
theorem Env.setv (h : Env w cs sets rows wx) {p : SetT} (hp : p ∈ sets) : SetV wx (setVal p) p.2.2 := ⟨_, _, rfl, (h.sets p hp).1⟩
theorem Env.cell (h : Env w cs sets rows wx) {b : Nat} {v : Value} (hp : (b, v) ∈ cs) : wx.cell? ⟨b, 0, none⟩ = some v := (h.cells (b, v) hp).cell 0 rfl

theorem ofD {a : Option Addr} {c n : Nat} {l s : List Int} (h : Hid (Env w cs sets rows wx)) (hp : (a, c, l) ∈ rows) (hn : Hid (n = l.length)) (hs : Hid (setL ltI l = s)) :
    Calls Try.prog 9 #[.slice a n c] wx fun e w' => ∃ a' c' m, e = .returned (.agg #[.slice a' m c']) ∧ Hid (m = s.length) ∧ Hid (FreshV wx.heap.size (.agg #[.slice a' m c'])) ∧ Hid (Env w cs ((a', c', s) :: sets) rows w') := by
  have hr := h.out.rows _ hp
  rw [hn.out]
  refine (of_any a c l wx hr.1 (by have := hr.2; simp at this; omega)).mono ?_
  rw [hs.out]
  rintro e w' ⟨v, rfl, ⟨a', c', rfl, hv⟩, hf, hb⟩
  refine ⟨a', c', _, rfl, rfl, hf, (h.out.keep hb).set hv ?_ ?_⟩
  · rw [← hs.out]; exact rising_setL totI l
  · rw [← hs.out]; have := setL_length (lt := ltI) l; have := hr.2; simp at this ⊢; omega
theorem withD {a a2 : Option Addr} {c c2 n n2 : Nat} {l s u : List Int} (h : Hid (Env w cs sets rows wx)) (hp : (a2, c2, s) ∈ sets) (hq : (a, c, l) ∈ rows) (hn2 : Hid (n2 = s.length)) (hn : Hid (n = l.length)) (hu : Hid (setL ltI (s ++ l) = u)) (hul : Hid (u.length ≤ 100000)) :
    Calls Try.prog 13 #[.agg #[.slice a2 n2 c2], .slice a n c] wx fun e w' => ∃ a' c' m, e = .returned (.agg #[.slice a' m c']) ∧ Hid (m = u.length) ∧ Hid (FreshV wx.heap.size (.agg #[.slice a' m c'])) ∧ Hid (Env w cs ((a', c', u) :: sets) rows w') := by
  have hr := h.out.rows _ hq
  have hs := h.out.sets _ hp
  rw [hn.out, hn2.out]
  refine (with_any _ s a c l wx (h.out.setv hp) hr.1 (by have := hs.2.2; simp at this; omega) (by have := hr.2; simp at this; omega) hs.2.1).mono ?_
  rw [hu.out]
  rintro e w' ⟨v, rfl, ⟨a', c', rfl, hv⟩, hf, hb⟩
  refine ⟨a', c', _, rfl, rfl, hf, (h.out.keep hb).set hv ?_ hul.out⟩
  rw [← hu.out]; exact rising_setL totI _
theorem orD {a a2 : Option Addr} {c c2 n n2 : Nat} {s t u : List Int} (h : Hid (Env w cs sets rows wx)) (hp : (a, c, s) ∈ sets) (hq : (a2, c2, t) ∈ sets) (hn : Hid (n = s.length)) (hn2 : Hid (n2 = t.length)) (hu : Hid (setL ltI (s ++ t) = u)) (hul : Hid (u.length ≤ 100000)) :
    Calls Try.prog 10 #[.agg #[.slice a n c], .agg #[.slice a2 n2 c2]] wx fun e w' => ∃ a' c' m, e = .returned (.agg #[.slice a' m c']) ∧ Hid (m = u.length) ∧ Hid (FreshV wx.heap.size (.agg #[.slice a' m c'])) ∧ Hid (Env w cs ((a', c', u) :: sets) rows w') := by
  have hs := h.out.sets _ hp
  have ht := h.out.sets _ hq
  rw [hn.out, hn2.out]
  refine (or_any _ _ s t wx (h.out.setv hp) (h.out.setv hq) (by have := hs.2.2; simp at this; omega) (by have := ht.2.2; simp at this; omega) hs.2.1 ht.2.1).mono ?_
  rw [hu.out]
  rintro e w' ⟨v, rfl, ⟨a', c', rfl, hv⟩, hf, hb⟩
  refine ⟨a', c', _, rfl, rfl, hf, (h.out.keep hb).set hv ?_ hul.out⟩
  rw [← hu.out]; exact rising_setL totI _
theorem andD {a a2 : Option Addr} {c c2 n n2 : Nat} {s t u : List Int} (h : Hid (Env w cs sets rows wx)) (hp : (a, c, s) ∈ sets) (hq : (a2, c2, t) ∈ sets) (hn : Hid (n = s.length)) (hn2 : Hid (n2 = t.length)) (hu : Hid (partL t true s = u)) :
    Calls Try.prog 11 #[.agg #[.slice a n c], .agg #[.slice a2 n2 c2]] wx fun e w' => ∃ a' c' m, e = .returned (.agg #[.slice a' m c']) ∧ Hid (m = u.length) ∧ Hid (FreshV wx.heap.size (.agg #[.slice a' m c'])) ∧ Hid (Env w cs ((a', c', u) :: sets) rows w') := by
  have hs := h.out.sets _ hp
  have ht := h.out.sets _ hq
  rw [hn.out, hn2.out]
  refine (and_any _ _ s t wx (h.out.setv hp) (h.out.setv hq) (by have := hs.2.2; simp at this; omega) (by have := ht.2.2; simp at this; omega) ht.2.1).mono ?_
  rw [hu.out]
  rintro e w' ⟨v, rfl, ⟨a', c', rfl, hv⟩, hf, hb⟩
  refine ⟨a', c', _, rfl, rfl, hf, (h.out.keep hb).set hv ?_ ?_⟩
  · rw [← hu.out]; exact rising_filter hs.2.1 _
  · rw [← hu.out]; have := partL_le t true s; have := hs.2.2; simp at this ⊢; omega
theorem minusD {a a2 : Option Addr} {c c2 n n2 : Nat} {s t u : List Int} (h : Hid (Env w cs sets rows wx)) (hp : (a, c, s) ∈ sets) (hq : (a2, c2, t) ∈ sets) (hn : Hid (n = s.length)) (hn2 : Hid (n2 = t.length)) (hu : Hid (partL t false s = u)) :
    Calls Try.prog 12 #[.agg #[.slice a n c], .agg #[.slice a2 n2 c2]] wx fun e w' => ∃ a' c' m, e = .returned (.agg #[.slice a' m c']) ∧ Hid (m = u.length) ∧ Hid (FreshV wx.heap.size (.agg #[.slice a' m c'])) ∧ Hid (Env w cs ((a', c', u) :: sets) rows w') := by
  have hs := h.out.sets _ hp
  have ht := h.out.sets _ hq
  rw [hn.out, hn2.out]
  refine (minus_any _ _ s t wx (h.out.setv hp) (h.out.setv hq) (by have := hs.2.2; simp at this; omega) (by have := ht.2.2; simp at this; omega) ht.2.1).mono ?_
  rw [hu.out]
  rintro e w' ⟨v, rfl, ⟨a', c', rfl, hv⟩, hf, hb⟩
  refine ⟨a', c', _, rfl, rfl, hf, (h.out.keep hb).set hv ?_ ?_⟩
  · rw [← hu.out]; exact rising_filter hs.2.1 _
  · rw [← hu.out]; have := partL_le t false s; have := hs.2.2; simp at this ⊢; omega
theorem listD {a : Option Addr} {c n : Nat} {s : List Int} (h : Hid (Env w cs sets rows wx)) (hp : (a, c, s) ∈ sets) (hn : Hid (n = s.length)) :
    Calls Try.prog 15 #[.agg #[.slice a n c]] wx fun e w' => ∃ a' c', e = .returned (.slice a' n c') ∧ Hid (Env w cs sets ((a', c', s) :: rows) w') := by
  have hs := h.out.sets _ hp
  rw [hn.out]
  refine (list_any _ s wx (h.out.setv hp) (by have := hs.2.2; simp at this; omega)).mono ?_
  rintro e w' ⟨⟨a', c', rfl, hr⟩, hb⟩
  exact ⟨a', c', rfl, (h.out.keep hb).row hr hs.2.2⟩
theorem lenD {a : Option Addr} {c n : Nat} {s : List Int} (h : Hid (Env w cs sets rows wx)) (hp : (a, c, s) ∈ sets) (hn : Hid (n = s.length)) :
    Calls Try.prog 18 #[.agg #[.slice a n c]] wx fun e w' => e = .returned (.int .i64 (n : Int)) ∧ Hid (Env w cs sets rows w') := by
  rw [hn.out]
  refine (len_any _ s wx (h.out.setv hp)).mono ?_
  rintro e w' ⟨rfl, hb⟩
  exact ⟨rfl, h.out.keep hb⟩
theorem hasD {a : Option Addr} {c n : Nat} {s : List Int} {x : Int} {r : Bool} (h : Hid (Env w cs sets rows wx)) (hp : (a, c, s) ∈ sets) (hn : Hid (n = s.length)) (hr : Hid (decide (x ∈ s) = r)) :
    Calls Try.prog 19 #[.agg #[.slice a n c], .int .i64 x] wx fun e w' => e = .returned (.bool r) ∧ Hid (Env w cs sets rows w') := by
  have hs := h.out.sets _ hp
  rw [hn.out]
  refine (has_any _ s x wx (h.out.setv hp) (by have := hs.2.2; simp at this; omega) hs.2.1).mono ?_
  rw [hr.out]
  rintro e w' ⟨rfl, hb⟩
  exact ⟨rfl, h.out.keep hb⟩
theorem allD {a : Option Addr} {c n : Nat} {s : List Int} (h : Hid (Env w cs sets rows wx)) (hp : (a, c, s) ∈ sets) (hn : Hid (n = s.length)) :
    Calls Try.prog 22 #[.agg #[.slice a n c]] wx fun e w' => ∃ B, e = .returned (.func (.func 49) #[] #[.pointer (some ⟨B, 0, none⟩)]) ∧ Hid (Env w cs sets rows w') := by
  refine (all_at a n c wx).mono ?_
  rintro e w' ⟨B, _, rfl, _, hb⟩
  exact ⟨B, rfl, h.out.keep hb⟩
theorem sameD {a a2 : Option Addr} {c c2 n n2 : Nat} {l k : List Int} (h : Hid (Env w cs sets rows wx)) (hp : (a, c, l) ∈ rows) (hq : (a2, c2, k) ∈ rows) (hn : Hid (n = l.length)) (hn2 : Hid (n2 = k.length)) (e : Hid (l = k)) :
    Calls Try.prog 14 #[.slice a n c, .slice a2 n2 c2] wx fun e w' => e = .returned (.bool true) ∧ Hid (Env w cs sets rows w') := by
  rw [hn.out, hn2.out]
  refine (same_rows a a2 c c2 l k wx (h.out.rows _ hp).1 (h.out.rows _ hq).1 e.out).mono ?_
  rintro e w' ⟨rfl, hb⟩
  exact ⟨rfl, h.out.keep hb⟩
theorem cmpD {a a2 : Option Addr} {c c2 n n2 : Nat} {l k : List Int} {r : Int} (h : Hid (Env w cs sets rows wx)) (hp : (a, c, l) ∈ rows) (hq : (a2, c2, k) ∈ rows) (hn : Hid (n = l.length)) (hn2 : Hid (n2 = k.length)) (hr : Hid (cmpL ltI l k = r)) :
    Calls Try.prog 28 #[.slice a n c, .slice a2 n2 c2] wx fun e w' => e = .returned (.int .i64 r) ∧ w' = wx := by
  rw [hn.out, hn2.out]
  have := cmp_any a a2 c c2 l k wx (h.out.rows _ hp).1 (h.out.rows _ hq).1
  rw [hr.out] at this
  exact this
theorem psameD {a a2 : Option Addr} {c c2 n n2 : Nat} {l k : List Int} {r : Bool} (h : Hid (Env w cs sets rows wx)) (hp : (a, c, l) ∈ rows) (hq : (a2, c2, k) ∈ rows) (hn : Hid (n = l.length)) (hn2 : Hid (n2 = k.length)) (hr : Hid ((cmpL ltI l k == 0) = r)) :
    Calls Try.prog 30 #[.slice a n c, .slice a2 n2 c2] wx fun e w' => e = .returned (.bool r) ∧ w' = wx := by
  rw [hn.out, hn2.out]
  have := psame_any a a2 c c2 l k wx (h.out.rows _ hp).1 (h.out.rows _ hq).1
  rw [hr.out] at this
  exact this
end
end Go.Proofs.Ytghdafgpdhbohaa.Sets
