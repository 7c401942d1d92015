/- What a law keeps that goes through a deque and changes it meanwhile. -/
import Derived.Test.YtfoggnfemcnolaaDqWorks
namespace Go.Proofs.Ytfoggnfemcnolaa.DqI
open Go.RowKit Go.Proofs.Ytfoggnfemcnolaa.Dig Go.Proofs.Ytfoggnfemcnolaa.Mem Go.Proofs.Ytfoggnfemcnolaa.Dq Go.Proofs.Ytfoggnfemcnolaa.Bit
set_option linter.unusedVariables false
set_option linter.unusedSimpArgs false

theorem is_cells {w : World} {b : Nat} {cs : Array Value} (h : Is w b cs) : ∃ o : Obj, w.heap[b]? = some o ∧ o.isCells = true := by
  obtain ⟨T, h⟩ := h
  exact ⟨_, h, rfl⟩
theorem Sh.cells {w : World} {s : Sh} {l : List Int} (h : s.At w l) : ∀ k, s.has k → ∃ o : Obj, w.heap[k]? = some o ∧ o.isCells = true := fun k hk => by
  cases s with
  | nil => exact hk.elim
  | bare b => cases hk; exact is_cells h.1
  | ring b g n t rs =>
    rcases hk with rfl | rfl
    · exact is_cells (show Dq w k g n t rs l from h).box
    · exact is_cells (show Dq w b k n t rs l from h).row
theorem keeps_turned {wx w' : World} {b : Nat} {l l' : List Int} {s : Sh} (h : s.At wx l) (ht : Turned wx b s.has l' w') : KeepsOthers wx w' :=
  ⟨ht.only.size, fun k o hk ho => (ht.only.block k (Array.getElem?_eq_some_iff.1 hk).1 (fun q => by
    obtain ⟨o', h1, h2⟩ := Sh.cells h k q
    rw [hk] at h1
    cases h1
    rw [ho] at h2
    cases h2)).trans hk⟩
theorem keepsO_below {W V : World} (hb : Below W.heap.size W V) : KeepsOthers W V := ⟨hb.size, fun k o hk _ => (hb.block k (Array.getElem?_eq_some_iff.1 hk).1).trans hk⟩
theorem rowi_off {W V : World} {a : Option Addr} {c : Nat} {l : List Int} (h : RowI W a c l) {row : Option Nat} (hg : W.grownBy V row) (hr : ∀ r, row = some r → ∃ o : Obj, W.heap[r]? = some o ∧ o.isCells = false) : RowI V a c l :=
  ⟨h.cap, h.rd.only' (S := fun k => row = some k) ⟨hg.os, hg.tape, hg.output, hg.size, fun k hk hn => hg.block k hk (fun e => hn e.symm)⟩ (fun hl x ex q => by
    obtain ⟨b, off, e, hc⟩ := h.at hl
    rw [ex] at e
    cases e
    obtain ⟨o, q1, q2⟩ := hr _ q
    obtain ⟨o', q3, q4⟩ := cells_of_cell hc
    rw [q1] at q3
    cases q3
    rw [q2] at q4
    cases q4), h.nil⟩
section
variable {w wx w' : World} {b : Nat} {l l' : List Int} {rows rows' : List (Option Addr × Nat × List Int)} {cs cs' : List (Nat × Array Value)}
theorem Env.off (h : Env w b l rows cs wx) {row : Option Nat} (hg : wx.grownBy w' row) (hr : ∀ r, row = some r → w.heap.size ≤ r ∧ ∃ o : Obj, wx.heap[r]? = some o ∧ o.isCells = false) : Env w b l rows cs w' := by
  obtain ⟨s, h⟩ := h
  have hr2 : ∀ r, row = some r → ∃ o : Obj, wx.heap[r]? = some o ∧ o.isCells = false := fun r e => (hr r e).2
  exact ⟨s, Sh.off h.deq hg hr2, h.ptr, h.ge, h.below.grown hg h.below.size (fun k q => (hr k q).1), fun r hr' => ⟨rowi_off (h.rows r hr').1 hg hr2, (h.rows r hr').2⟩, fun r hr' => ⟨is_off (h.boxes r hr').1 hg hr2, (h.boxes r hr').2⟩⟩
theorem pushG (x : Int) (h : Hid (Env w b l rows cs wx)) (hl : l.length ≤ 400000) :
    Calls Try.prog 12 #[.pointer (some ⟨b, 0, none⟩), .int .i64 x] wx fun e w' => e = .returned (.tuple #[]) ∧ Hid (Env w b (l ++ [x]) rows cs w') ∧ Hid (KeepsOthers wx w') := by
  obtain ⟨s, h⟩ := h.out
  refine (push_sh h.deq h.ptr x hl).mono ?_
  rintro e w' ⟨rfl, ht⟩
  exact ⟨rfl, Env.turned h ht, keeps_turned h.deq ht⟩
/-- Pop, whatever there is. -/
theorem popG (h : Hid (Env w b l rows cs wx)) :
    Calls Try.prog 8 #[.pointer (some ⟨b, 0, none⟩)] wx fun e w' => ∃ x ok l', e = .returned (.tuple #[.int .i64 x, .bool ok]) ∧ Hid (Env w b l' rows cs w') ∧ Hid (KeepsOthers wx w') ∧ Hid (l'.length ≤ l.length ∧ (0 < l.length → l'.length < l.length)) := by
  obtain ⟨s, h⟩ := h.out
  rcases List.eq_nil_or_concat l with rfl | ⟨l', x, rfl⟩
  · have := pop_none h.deq
    rw [h.ptr] at this
    refine this.mono ?_
    rintro e w' ⟨rfl, rfl⟩
    exact ⟨0, false, [], rfl, ⟨s, h⟩, KeepsOthers.refl _, hide ⟨Nat.le_refl _, fun q => q⟩⟩
  · rw [List.concat_eq_append] at h
    obtain ⟨b', hp, hc⟩ := pop_sh h.deq
    have e := hp.symm.trans h.ptr
    injection e with e; injection e with e; injection e with e
    subst e
    refine hc.mono ?_
    rintro e w' ⟨rfl, ht⟩
    exact ⟨x, true, l', rfl, Env.turned h ht, keeps_turned h.deq ht, hide (by simp)⟩
theorem stealG {x : Int} (h : Hid (Env w b l rows cs wx)) :
    Calls Try.prog 10 #[.pointer (some ⟨b, 0, none⟩)] wx fun e w' => ∃ x ok, e = .returned (.tuple #[.int .i64 x, .bool ok]) ∧ Hid (Env w b (l.drop 1) rows cs w') ∧ Hid (KeepsOthers wx w') := by
  obtain ⟨s, h⟩ := h.out
  cases l with
  | nil =>
    have := steal_none h.deq
    rw [h.ptr] at this
    refine this.mono ?_
    rintro e w' ⟨rfl, rfl⟩
    exact ⟨0, false, rfl, ⟨s, h⟩, KeepsOthers.refl _⟩
  | cons x l =>
    obtain ⟨b', hp, hc⟩ := steal_sh h.deq
    have e := hp.symm.trans h.ptr
    injection e with e; injection e with e; injection e with e
    subst e
    refine hc.mono ?_
    rintro e w' ⟨rfl, ht⟩
    exact ⟨x, true, rfl, Env.turned h ht, keeps_turned h.deq ht⟩
/-- A box that was made meanwhile. -/
theorem Env.had (h : Env w b l rows cs wx) (hb : Below wx.heap.size wx w') {p : Nat} {c : Array Value} (hp : Is w' p c) (hge : wx.heap.size ≤ p) : Env w b l rows ((p, c) :: cs) w' := by
  obtain ⟨s, h0⟩ := h
  refine ⟨s, Sh.below h0.deq hb, h0.ptr, h0.ge, h0.below.trans (hb.mono h0.below.size), fun r hr => ⟨(h0.rows r hr).1.keep hb, (h0.rows r hr).2⟩, fun r hr => ?_⟩
  rcases List.mem_cons.1 hr with rfl | q
  · exact ⟨hp, fun hk => by have := Sh.lt h0.deq _ hk; omega⟩
  · exact ⟨(h0.boxes r q).1.below hb, (h0.boxes r q).2⟩
/-- The deque is made, beside boxes that are there. -/
theorem Env.start (T : TypeId) {b : Nat} (wx : World) (h : Below w.heap.size w wx) (hx : b = wx.heap.size) (hc : ∀ r ∈ cs, Is wx r.1 r.2) (hr : ∀ r ∈ rows, RowI w r.1 r.2.1 r.2.2) : Env w b [] rows cs (wx.alloc (.cells #[.slice none 0 0, .int .i64 0, .int .i64 0] T)) :=
  ⟨.bare b, ⟨Is.made wx _ T hx, rfl⟩, rfl, fun k hk => by cases hk; have := h.size; omega, h.alloc h.size _, fun r q => ⟨((hr r q).keep h).keep ((Below.refl _ _).alloc (Nat.le_refl _) _), fun hl x ex hk => by
    have := Rd.lt (hr r q).rd hl x ex
    have := h.size
    have e : x.block = b := hk
    omega⟩, fun r q => ⟨(hc r q).alloc _, fun hk => by
    have := (hc r q).lt
    have e : r.1 = b := hk
    omega⟩⟩
theorem all_box {w : World} {s : Sh} {l : List Int} (h : s.At w l) (hw : WfL l) :
    Calls Try.prog 20 #[s.ptr] w fun e w' => ∃ B a c w1, e = .returned (.func (.func 33) #[] #[.pointer (some ⟨B, 0, none⟩)]) ∧ w' = w1.alloc (.cells #[.slice a l.length c] 25) ∧ B = w1.heap.size ∧ RowI w1 a c l ∧ Fresh w.heap.size a ∧ Below w.heap.size w w1 := by
  have HL := hide (list_i h hw)
  obtain ⟨q, hq⟩ := s.shape
  rw [hq] at HL ⊢
  obtain ⟨m, hm⟩ : ∃ m, m = l.length := ⟨_, rfl⟩
  rw [← hm] at HL ⊢
  clear h hq hm
  go_enter Try.func20, Try.ntmps20
  go_wp2_with (first
    | (go_at_call 15; go_must ((with_reducible refine (Hid.out HL).mono ?_); rintro e w1 ⟨⟨a, c, rfl, hr, hf⟩, hb⟩; have HR := hide hr; have HF := hide hf; have HB := hide hb; clear hr hf hb HL))
    | (go_at_call 30; go_must ((with_reducible refine (sall_any _ _ _ _).mono ?_); rintro e w2 ⟨rfl, rfl⟩)))
  go_ret
  exact ⟨_, _, _, _, rfl, rfl, rfl, HR.out, HF.out, HB.out⟩
theorem allG {n : Nat} (h : Hid (Env w b l rows cs wx)) (hw : WfL l) (hn : n = l.length) :
    Calls Try.prog 20 #[.pointer (some ⟨b, 0, none⟩)] wx fun e w' => ∃ B a c, e = .returned (.func (.func 33) #[] #[.pointer (some ⟨B, 0, none⟩)]) ∧ Hid (wx.heap.size ≤ B) ∧ Hid (Env w b l ((a, c, l) :: rows) ((B, #[.slice a n c]) :: cs) w') := by
  subst hn
  obtain ⟨s, h1⟩ := h.out
  have := all_box h1.deq hw
  rw [h1.ptr] at this
  refine this.mono ?_
  rintro e w' ⟨B, a, c, w1, rfl, rfl, rfl, hr, hf, hb⟩
  exact ⟨_, a, c, rfl, hb.size, (h.out.more hb hr hf).box _ _ rfl⟩
end
end Go.Proofs.Ytfoggnfemcnolaa.DqI
